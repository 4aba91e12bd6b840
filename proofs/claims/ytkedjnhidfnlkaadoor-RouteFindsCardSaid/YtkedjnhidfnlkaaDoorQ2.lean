/-
  route.Check: its walk.
-/
import Derived.Test.YtkedjnhidfnlkaaDoorQ1
namespace Go.Proofs.YtkedjnhidfnlkaaDoor
set_option maxRecDepth 100000
open Go Go.RowKit

/-- What a question on edges leaves. -/
structure EmX (bm gm cm R C : Nat) (ms : List UInt8) (w w' : World) : Prop where
  em : EM bm gm cm R C ms w'
  ts : ∀ k, TS bm gm w' k → TS bm gm w k ∨ w.heap.size ≤ k
  kp : Kept (fun k => k = bm) w w'
theorem EmX.refl {bm gm cm R C : Nat} {ms : List UInt8} {w : World} (h : EM bm gm cm R C ms w) : EmX bm gm cm R C ms w w := ⟨h, fun _ h => .inl h, Kept.refl _ _⟩
theorem EmX.trans {bm gm cm R C : Nat} {ms : List UInt8} {a b c : World} (h : EmX bm gm cm R C ms a b) (k : EmX bm gm cm R C ms b c) : EmX bm gm cm R C ms a c :=
  ⟨k.em, fun i hi => (k.ts i hi).elim (h.ts i) (fun h1 => .inr (Nat.le_trans h.kp.size h1)), h.kp.trans k.kp (fun _ _ h => h)⟩
theorem EmX.still {bm gm cm R C : Nat} {ms : List UInt8} {a b c : World} (h : EmX bm gm cm R C ms a b) (hk : Kept (fun _ => False) b c) : EmX bm gm cm R C ms a c := by
  obtain ⟨h1, h2⟩ := h.em.keptX hk (fun _ _ => id)
  exact ⟨h1, fun k hk' => h.ts k (h2 k hk'), h.kp.trans hk (fun _ _ h => h.elim)⟩
theorem emx_of {bm gm cm R C : Nat} {ms : List UInt8} {w w1 : World} (hE : EM bm gm cm R C ms w) (he : EM bm gm cm R C ms w1) (hg : w.grownBy w1 (some bm)) (hs : Done bm R C ms w → w1 = w) (hup : ∀ F, F ≤ w.heap.size → Up F bm w → Up F bm w1) : EmX bm gm cm R C ms w w1 := by
  refine ⟨he, fun k hk => ?_, (Kept.refl _ w).grown hg (fun k e => .inl (by injection e with e; exact e.symm))⟩
  rcases hE.st with hr | hd
  · have hu := hup w.heap.size (Nat.le_refl _) (up_ready hr)
    rcases hk with rfl | rfl | rfl | ⟨f, hf, q, n, c, hc, hh⟩
    · exact .inl (.inl rfl)
    · exact .inl (.inr (.inl rfl))
    · exact .inl (.inr (.inr (.inl rfl)))
    · obtain ⟨u1, u2⟩ := hu f hf q n c hc
      right
      rcases hh with rfl | ⟨j, hj, v', hv, hvk⟩
      · exact u1
      · exact u2 j hj v' hv k hvk
  · left
    rw [hs hd] at hk
    exact hk

set_option maxHeartbeats 800000 in
theorem edge_x {b g cap R C : Nat} {ms : List UInt8} {w : World} (i x : Int) (h : EM b g cap R C ms w) :
    Calls Tryd.prog 42 #[.pointer (some ⟨b, 0, none⟩), .int .i64 i, .int .i64 x] w fun e w' => e = .returned (.bool ((nextZ R C ms i).any (fun u => (u : Int) == x))) ∧ EmX b g cap R C ms w w' := by
  have hc2 := h.c2
  have hlen := h.len
  by_cases hi : 0 ≤ i ∧ i < (ms.length : Int)
  · obtain ⟨k, rfl⟩ := Int.eq_ofNat_of_zero_le hi.1
    have hk : k < ms.length := by omega
    have hl : nextZ R C ms (k : Int) = outs R C ms k := by unfold nextZ; rw [if_pos hi]; rfl
    rw [hl]
    have ho := outs_len R C ms k
    have hb : (decide (0 ≤ (k : Int)) && decide ((k : Int) < (ms.length : Int))) = true := by simp [hk]
    have HD : Hid (Calls Tryd.prog 61 #[.pointer (some ⟨b, 3, none⟩), .func (.func 62) #[.pointer (some ⟨b, 0, none⟩)] #[]] w fun e w' => e = .returned (.tuple #[]) ∧ Done b R C ms w' ∧ EmX b g cap R C ms w w') := (do_anyU h).mono fun e w' ⟨h1, h2, h3, h4, h5, h6⟩ => ⟨h1, h3, emx_of h h2 h4 h5 h6⟩
    have HN : Hid (∀ w', Done b R C ms w' → ∃ B gn v, w'.cell? ⟨b, 6, none⟩ = some (.slice (some ⟨gn, 0, none⟩) ms.length ms.length) ∧ w'.cell? ⟨gn, k, none⟩ = some v ∧ w'.ownsRow B 3 1 v (outs R C ms k).length ((outs R C ms k).map natV)) := fun w' hd => hd.next h.hC hk
    have HC : Hid (∀ w' B v, w'.ownsRow B 3 1 v (outs R C ms k).length ((outs R C ms k).map natV) → Calls Tryd.prog 68 #[v, .int .i64 x] w' fun e w'' => e = .returned (.bool ((outs R C ms k).any (fun u => (u : Int) == x))) ∧ w' = w'') := fun w' B v ho' => contains_any ho' x (by omega)
    have hki : (k : Int) < (ms.length : Int) := by omega
    have hk0 : 0 ≤ (k : Int) := by omega
    clear h hl hi
    generalize (outs R C ms k).any (fun u => (u : Int) == x) = r at HC ⊢
    go_enter Tryd.func42, Tryd.ntmps42
    go_wp2_with (first
      | (go_at_call 59; refine (has_any _ _ _ _ _ _ hc2).mono ?_; rintro e w' ⟨rfl, rfl⟩; rw [hb])
      | (go_at_call 61; (with_reducible refine HD.out.mono ?_); rintro e w1 ⟨rfl, hDn, hx⟩; have HX := Lib.hid hx; obtain ⟨B, gn, v, c6, ck, hown⟩ := HN.out w1 hDn; clear hDn hx)
      | (go_at_call 68; (with_reducible refine (HC.out _ _ _ hown).mono ?_); rintro e w2 ⟨rfl, rfl⟩))
    go_ret
    exact ⟨rfl, HX.out⟩
  · have hl : nextZ R C ms i = [] := by unfold nextZ; rw [if_neg hi]
    rw [hl]
    have hb : (decide (0 ≤ i) && decide (i < (ms.length : Int))) = false := by
      rw [Bool.eq_false_iff]; intro e; apply hi; simpa using e
    have HE := Lib.hid (EmX.refl h)
    clear h hl hi
    go_enter Tryd.func42, Tryd.ntmps42
    go_wp2_with (go_at_call 59; refine (has_any _ _ _ _ _ _ hc2).mono ?_; rintro e w' ⟨rfl, rfl⟩; rw [hb])
    go_ret
    exact ⟨rfl, HE.out⟩

/-! Check -/
def stepB (R C : Nat) (ms : List UInt8) (ban path : List Int) (i : Nat) : Bool := (nextZ R C ms (path.getD i 0)).any (fun u => (u : Int) == path.getD (i + 1) 0) && !(decide (path.getD (i + 1) 0 ∈ ban))
def checkZ (R C : Nat) (ms : List UInt8) (path ban : List Int) : Int :=
  if path.length = 0 ∨ freeB ms (path.getD 0 0) = false ∨ freeB ms (path.getD (path.length - 1) 0) = false then 2
  else if (List.range (path.length - 1)).all (stepB R C ms ban path) = true then 0 else 40

theorem ints_at {w : World} {A : Option Addr} {l : List Int} (h : IntsAt w A l) {j : Nat} (hj : j < l.length) : ∃ a, A = some a ∧ w.cell? (a.add j) = some (.int .i64 (l.getD j 0)) := by
  obtain ⟨a, e, _, h2⟩ := h j hj
  exact ⟨a, e, h2⟩
theorem IntsAt.keptX {w w' : World} {X : Nat → Prop} {A : Option Addr} {l : List Int} (h : IntsAt w A l) (hk : Kept X w w') (hX : ∀ a, A = some a → ¬ X a.block) : IntsAt w' A l := by
  intro j hj
  obtain ⟨a, e, h1, h2⟩ := h j hj
  have hbk : (a.add j).block = a.block := by unfold Addr.add; split <;> rfl
  exact ⟨a, e, Nat.lt_of_lt_of_le h1 hk.size, hk.cell h2 (by rw [hbk]; exact hX a e)⟩

set_option maxHeartbeats 2000000 in
theorem check_any {bm gm cm R C : Nat} {ms : List UInt8} {w : World} {A B : Option Addr} {path ban : List Int} {cap cb : Nat} (hE : EM bm gm cm R C ms w) (hA : IntsAt w A path) (hB : IntsAt w B ban) (hp : path.length ≤ cap) (hpm : path.length ≤ maxLen) (hbm : ban.length ≤ maxLen) (hAb0 : 0 < path.length → ∀ a, A = some a → a.block ≠ bm) :
    Calls Tryd.prog 20 #[.pointer (some ⟨bm, 0, none⟩), .slice A path.length cap, .slice B ban.length cb] w fun e w' => e = .returned (.int .i64 (checkZ R C ms path ban)) ∧ EmX bm gm cm R C ms w w' := by
  have hpm' := hpm
  unfold maxLen at hpm
  have HF : Hid (∀ i, Calls Tryd.prog 27 #[.pointer (some ⟨bm, 0, none⟩), .int .i64 i] w fun e w' => e = .returned (.bool (freeB ms i)) ∧ w = w') := fun i => free_any bm gm cm ms i w hE.c2 (fun j hj => hE.mark j hj)
  have HE := Lib.hid hE
  have HA := Lib.hid hA
  have HM := Lib.hid (marked_any (cap := cb) hE hB hbm)
  have HR := Lib.hid (EmX.refl hE)
  obtain ⟨n, hn⟩ : ∃ n, n = path.length := ⟨_, rfl⟩
  by_cases h0 : path.length = 0
  · have hz : checkZ R C ms path ban = 2 := by unfold checkZ; rw [if_pos (.inl h0)]
    rw [hz, h0]
    clear hA hB hE HM HF hAb0
    go_enter Tryd.func20, Tryd.ntmps20
    go_wp2
    go_ret
    exact ⟨rfl, HR.out⟩
  · have hAb := hAb0 (by omega)
    clear hAb0
    obtain ⟨a, rfl, f0⟩ := ints_at hA (j := 0) (by omega)
    obtain ⟨a', ea, f1⟩ := ints_at hA (j := path.length - 1) (by omega)
    cases ea
    have HN := Lib.hid hn
    rw [← hn] at h0 hp hpm f1 ⊢
    clear hn hpm'
    have e1 : ((n : Int) - 1).toNat = n - 1 := by omega
    have f1' : w.cell? (a.add ((n : Int) - 1).toNat) = some (.int .i64 (path.getD (n - 1) 0)) := by rw [e1]; exact f1
    have f0' : w.cell? a = some (.int .i64 (path.getD 0 0)) := by rw [← f0, Addr.add_zero']
    have n0 : (0 : Int) ≤ (n : Int) - 1 := by omega
    have n1 : (n : Int) - 1 < (n : Int) := by omega
    have n2 : ¬ n = 0 := h0
    have n3 : (n == 0) = false := by simpa using h0
    have n4 : decide (n = 0) = false := decide_eq_false h0
    have hab : a.block ≠ bm := hAb a rfl
    have HF0 := Lib.hid (HF (path.getD 0 0))
    have HF1 := Lib.hid (HF (path.getD (n - 1) 0))
    clear HF hA hB hE
    cases hx0 : freeB ms (path.getD 0 0) with
    | false =>
      have hz : Hid (checkZ R C ms path ban = 2) := by show _ = _; unfold checkZ; rw [if_pos (.inr (.inl hx0))]
      rw [hx0] at HF0
      generalize path.getD 0 0 = y0 at *
      clear hx0 HF1 HM
      go_enter Tryd.func20, Tryd.ntmps20
      go_wp2_with (with_reducible refine HF0.out.mono ?_; rintro e w' ⟨rfl, rfl⟩)
      go_ret
      exact ⟨by rw [hz.out]; rfl, HR.out⟩
    | true =>
      rw [hx0] at HF0
      cases hx1 : freeB ms (path.getD (n - 1) 0) with
      | false =>
        have hz : Hid (checkZ R C ms path ban = 2) := by show _ = _; unfold checkZ; rw [if_pos (.inr (.inr (by rw [← HN.out]; exact hx1)))]
        rw [hx1] at HF1
        clear hx0 hx1 HM
        generalize path.getD 0 0 = y0 at *
        generalize path.getD (n - 1) 0 = y1 at *
        go_enter Tryd.func20, Tryd.ntmps20
        go_wp2_with (first | (with_reducible refine HF0.out.mono ?_; rintro e w' ⟨rfl, rfl⟩) | (with_reducible refine HF1.out.mono ?_; rintro e w' ⟨rfl, rfl⟩))
        go_ret
        exact ⟨by rw [hz.out]; rfl, HR.out⟩
      | true =>
        rw [hx1] at HF1
        have HZ : Hid (checkZ R C ms path ban = if (List.range (n - 1)).all (stepB R C ms ban path) = true then 0 else 40) := by
          show _ = _
          unfold checkZ
          rw [if_neg (by rw [← HN.out, hx0, hx1]; simp; exact h0), ← HN.out]
        clear hx0 hx1
        generalize path.getD 0 0 = y0 at *
        generalize path.getD (n - 1) 0 = y1 at *
        go_enter Tryd.func20, Tryd.ntmps20
        go_wp2_with (first | (with_reducible refine HF0.out.mono ?_; rintro e w' ⟨rfl, rfl⟩) | (with_reducible refine HF1.out.mono ?_; rintro e w' ⟨rfl, rfl⟩) | (go_at_call 53; fail))
        refine HM.out.mono ?_
        rintro e w1 ⟨g, rfl, hg1, hg2, hb1⟩
        have HX1 := Lib.hid (HR.out.still (Kept.of_below hb1 (Nat.le_refl _)))
        have HG1 := Lib.hid hg1
        have HGl := Lib.hid hg2
        clear hg1 hg2 hb1 HM HF0 HF1 f0 f0' f1 f1'
        by_cases hc1 : n = 1
        · have hz : Hid (checkZ R C ms path ban = 0) := by show _ = _; rw [HZ.out, hc1]; rfl
          clear HZ HG1
          subst hc1
          by_cases hcap : cap = 1
          · subst hcap
            go_wp2
            go_loopw [40] (fun u wr => u = .int .i64 0 ∧ wr = w1) (fun u _ => 0)
            case atStart => exact ⟨rfl, rfl⟩
            case round =>
              obtain ⟨rfl, rfl⟩ := hrel
              go_wp2
              go_ret
              exact ⟨by rw [hz.out]; rfl, HX1.out⟩
          · have hcap1 : 1 < cap := by omega
            go_wp2
            go_loopw [40] (fun u wr => u = .int .i64 0 ∧ wr = w1) (fun u _ => 0)
            case atStart => exact ⟨rfl, rfl⟩
            case round =>
              obtain ⟨rfl, rfl⟩ := hrel
              go_wp2
              go_ret
              exact ⟨by rw [hz.out]; rfl, HX1.out⟩
        · have hcap1 : 1 < cap := by omega
          have hn2 : 2 ≤ n := by omega
          obtain ⟨k, hk⟩ : ∃ k, k = n - 1 := ⟨_, rfl⟩
          have HK := Lib.hid hk
          have hk1 : (n : Int) - 1 = (k : Int) := by omega
          have HX0 : Hid (EmX bm gm cm R C ms w w1 ∧ w1.heap[g]? = some (.cells (bz (banL ms.length ban)) 4 (0, 0)) ∧ ∀ j, j < 0 → stepB R C ms ban path j = true) := ⟨HX1.out, HG1.out, fun j hj => by omega⟩
          rw [← hk] at HZ
          clear hk HX1 HG1 hk1 n0 n1 n2 n3 n4 e1 h0
          go_wp2
          rw [← HK.out]
          go_loopw [40] (fun u wr => ∃ i : Nat, i ≤ k ∧ u = .int .i64 (i : Int) ∧ EmX bm gm cm R C ms w wr ∧ wr.heap[g]? = some (.cells (bz (banL ms.length ban)) 4 (0, 0)) ∧ ∀ j, j < i → stepB R C ms ban path j = true) (fun u _ => k - (intOf u).toNat)
          case atStart => exact ⟨0, Nat.zero_le _, rfl, HX0.out⟩
          case round =>
            obtain ⟨i, hi, rfl, hx, hg, hst⟩ := hrel
            clear HX0
            have HX := Lib.hid hx
            have HG := Lib.hid hg
            have HSt := Lib.hid hst
            clear hx hg hst
            by_cases hlt : i < k
            · have hkn : k + 1 = n := by have := HK.out; omega
              have hpl : path.length = k + 1 := by rw [hkn]; exact HN.out.symm
              have hI := HA.out.keptX HX.out.kp (fun a' e => hAb a' e)
              obtain ⟨a', ea, g0⟩ := ints_at hI (j := i) (by omega)
              cases ea
              obtain ⟨a', ea, g1⟩ := ints_at hI (j := i + 1) (by omega)
              cases ea
              have ea2 : a.add (i + 1) = ⟨a.block, a.off + 1 + i, none⟩ := by
                simp [Addr.add]
                omega
              have g2 : wr.cell? ⟨a.block, a.off + 1 + i, none⟩ = some (.int .i64 (path.getD (i + 1) 0)) := by rw [← ea2]; exact g1
              clear ea2
              have HEd := Lib.hid (edge_x (path.getD i 0) (path.getD (i + 1) 0) HX.out.em)
              have HSb : Hid (stepB R C ms ban path i = ((nextZ R C ms (path.getD i 0)).any (fun u => (u : Int) == path.getD (i + 1) 0) && !(decide (path.getD (i + 1) 0 ∈ ban)))) := rfl
              have HNo : Hid (stepB R C ms ban path i = false → checkZ R C ms path ban = 40) := fun h => by
                rw [HZ.out, if_neg]
                intro hall
                have := List.all_eq_true.1 hall i (List.mem_range.2 hlt)
                rw [h] at this
                cases this
              have HNx : Hid (stepB R C ms ban path i = true → ∀ j, j < i + 1 → stepB R C ms ban path j = true) := fun h j hj => by
                by_cases e : j = i
                · subst e; exact h
                · exact HSt.out j (by omega)
              have i0 : (0 : Int) ≤ (i : Int) := by omega
              have i1 : (i : Int) < (n : Int) := by omega
              have i2 : (i : Int) < (k : Int) := by omega
              clear g1 hI
              generalize stepB R C ms ban path i = sb at *
              generalize path.getD i 0 = y0 at *
              generalize path.getD (i + 1) 0 = y1 at *
              cases hed : (nextZ R C ms y0).any (fun u => (u : Int) == y1) with
              | false =>
                have hq : Hid (checkZ R C ms path ban = 40) := HNo.out (by rw [HSb.out, hed]; rfl)
                rw [hed] at HEd
                clear hed HSb HNo HNx
                go_wp2_with fail
                refine HEd.out.mono ?_
                rintro e w2 ⟨rfl, hx2⟩
                have HX2 := Lib.hid (HX.out.trans hx2)
                clear hx2
                go_wp2
                go_ret
                exact ⟨by rw [hq.out]; rfl, HX2.out⟩
              | true =>
                obtain ⟨u, hu, hy⟩ : ∃ u : Nat, u < ms.length ∧ (u : Int) = y1 := by
                  obtain ⟨u, hm, he⟩ := List.any_eq_true.1 hed
                  have he' : (u : Int) = y1 := by simpa using he
                  refine ⟨u, ?_, he'⟩
                  unfold nextZ at hm
                  split at hm
                  · have := outs_bd hm
                    rw [HX.out.em.hN] at this
                    exact this
                  · simp at hm
                subst hy
                rw [hed] at HEd HSb
                clear hed
                have hgl : g ≠ bm := by
                  intro e
                  have h1 := HE.out.c0
                  have h2 := World.block_lt_of_cell? w _ h1
                  have h3 := HGl.out
                  rw [e] at h3
                  exact absurd h2 (by simp; omega)
                have HGl2 : Hid (g ≠ bm) := hgl
                have u0 : (0 : Int) ≤ (u : Int) := by omega
                have u1 : (u : Int) < (ms.length : Int) := by omega
                clear hgl
                go_wp2_with fail
                refine HEd.out.mono ?_
                rintro e w2 ⟨rfl, hx2⟩
                have HX2 := Lib.hid (HX.out.trans hx2)
                have HG2 : Hid (w2.heap[g]? = some (.cells (bz (banL ms.length ban)) 4 (0, 0))) := (hx2.kp.block g (blk_lt HG.out) HGl2.out).trans HG.out
                have fb : w2.cell? ⟨g, u, none⟩ = some (.bool (decide (((u : Nat) : Int) ∈ ban))) := by
                  rw [blk_cell HG2.out, bz_get (by rw [banL_len]; exact hu), banL_at hu]
                clear hx2
                cases hban : decide (((u : Nat) : Int) ∈ ban) with
                | true =>
                  have hq : Hid (checkZ R C ms path ban = 40) := HNo.out (by rw [HSb.out, hban]; rfl)
                  rw [hban] at fb
                  clear hban HSb HNo HNx
                  go_wp2
                  go_ret
                  exact ⟨by rw [hq.out]; rfl, HX2.out⟩
                | false =>
                  have hq := Lib.hid (HNx.out (by rw [HSb.out, hban]; rfl))
                  rw [hban] at fb
                  clear hban HSb HNo HNx
                  go_wp2
                  go_roundw
                  case rel => exact ⟨i + 1, by omega, by go_num, HX2.out, HG2.out, hq.out⟩
                  case measure => simp [intOf]; omega
            · obtain rfl : i = k := by omega
              have hq : Hid (checkZ R C ms path ban = 0) := by
                show _ = _
                rw [HZ.out, if_pos (List.all_eq_true.2 (fun j hj => HSt.out j (List.mem_range.1 hj)))]
              clear HSt HG
              go_wp2
              go_ret
              exact ⟨by rw [hq.out]; rfl, HX.out⟩
end Go.Proofs.YtkedjnhidfnlkaaDoor
