/-
  Check, Size.
-/
import Derived.Test.YtmfbokaaoffdnaaDoorWr4
namespace Go.Proofs.YtmfbokaaoffdnaaDoor
set_option maxRecDepth 100000
set_option linter.unusedSimpArgs false
open Go Go.RowKit Wr
attribute [local go_sem] Oper.semAt_some

/-- A packet as a value. -/
@[reducible] def pktA (p : Pkt) (A : Option Addr) (n cap : Nat) : Value := .agg #[.int .i64 p.from_, .int .i64 p.to_, .int .u32 (p.fe : Nat), .int .u32 (p.te : Nat), .int .u32 (p.seq : Nat), .int .u32 (p.met : Nat), .int .i64 p.msg.kind, .int .i64 p.msg.cell, .int .u32 (p.msg.gen : Nat), .int .u64 (p.msg.stamp : Nat), .int .i64 p.msg.prio, .int .i64 p.msg.hops, .int .i64 p.msg.origin, .int .i64 p.msg.other, .slice A n cap]

set_option maxHeartbeats 1000000 in
theorem checkP_any {w : World} (hT : Tab w) (p : Pkt) {A : Option Addr} (cap : Nat) (hC : ClaimsAt w A p.msg.claims) (hl : p.msg.claims.length ≤ 100000) (hg : p.msg.gen < 4294967296) :
    Calls Tryd.prog 7 #[pktA p A p.msg.claims.length cap] w fun e w' => e = .returned (.int .i64 (if okP p then 0 else 71)) ∧ Below w.heap.size w w' := by
  have HT := Lib.hid hT
  have HC := Lib.hid hC
  obtain ⟨P, hP⟩ : ∃ P : Ending → World → Prop, P = fun e w' => e = .returned (.int .i64 (if okP p then 0 else 71)) ∧ Below w.heap.size w w' := ⟨_, rfl⟩
  have HQ : Hid (∀ w' n, n = (if okP p then 0 else 71) → Below w.heap.size w w' → P (.returned (.int .i64 n)) w') := by rw [hP]; exact fun w' n e h => ⟨by rw [e], h⟩
  rw [← hP]
  clear hP hT hC
  obtain ⟨f, t, fe, te, sq, mt, m⟩ := p
  simp only at hl hg HC HQ ⊢
  unfold okP at HQ
  simp only at HQ
  have HB : Hid (∀ o, Below w.heap.size w (w.alloc o)) := fun o => (Below.refl _ w).alloc (Nat.le_refl _) o
  have HM : Hid (∀ o, Calls Tryd.prog 8 #[msgA m A m.claims.length cap] (w.alloc o) fun e w' => e = .returned (.int .i64 (if okM m then 0 else 71)) ∧ Below (w.alloc o).heap.size (w.alloc o) w') :=
    fun o => check_any (HT.out.below (HB.out o)) m cap (HC.out.below (HB.out o)) hl hg
  clear hl hg
  simp only [msgA] at HM
  generalize hn : (if okM m = true then (0 : Int) else 71) = n0 at HM
  simp only [pktA]
  cases h1 : isR f
  · rw [h1] at HQ
    go_enter Tryd.func7, Tryd.ntmps7
    go_wp2_with (first | ((with_reducible refine (isRobot_any _ f).mono ?_); rintro e w' ⟨rfl, rfl⟩; rw [h1]))
    exact HQ.out _ _ rfl (HB.out _)
  · rw [h1] at HQ
    cases h2 : isR t
    · rw [h2] at HQ
      go_enter Tryd.func7, Tryd.ntmps7
      go_wp2_with (first | ((with_reducible refine (isRobot_any _ f).mono ?_); rintro e w' ⟨rfl, rfl⟩; rw [h1]) | ((with_reducible refine (isRobot_any _ t).mono ?_); rintro e w' ⟨rfl, rfl⟩; rw [h2]))
      exact HQ.out _ _ rfl (HB.out _)
    · rw [h2] at HQ
      by_cases h3 : f = t
      · subst h3
        have h4 : (f != f) = false := by simp
        rw [h4] at HQ
        go_enter Tryd.func7, Tryd.ntmps7
        go_wp2_with (first | ((with_reducible refine (isRobot_any _ f).mono ?_); rintro e w' ⟨rfl, rfl⟩; rw [h1]) | ((with_reducible refine (isRobot_any _ t).mono ?_); rintro e w' ⟨rfl, rfl⟩; rw [h2]))
        exact HQ.out _ _ rfl (HB.out _)
      · have h4 : (f != t) = true := by simpa using h3
        have h5 : (f == t) = false := by simpa using h3
        rw [h4] at HQ
        go_enter Tryd.func7, Tryd.ntmps7
        go_wp2_with (first | ((with_reducible refine (isRobot_any _ f).mono ?_); rintro e w' ⟨rfl, rfl⟩; rw [h1]) | ((with_reducible refine (isRobot_any _ t).mono ?_); rintro e w' ⟨rfl, rfl⟩; rw [h2]) | ((with_reducible refine (HM.out _).mono ?_); rintro e w' ⟨rfl, hb⟩))
        exact HQ.out _ _ (by simpa using hn.symm) ((HB.out _).trans (hb.mono (by simp)))


def sumW (l : List Nat) : Nat := (l.map wid).foldl (· + ·) 0
theorem sumW_snoc (l : List Nat) (x : Nat) : sumW (l ++ [x]) = sumW l + wid x := by simp [sumW]
theorem wid_le : ∀ f, f < 9 → wid f ≤ 8 := by decide
theorem sumW_le : ∀ (l : List Nat), (∀ x ∈ l, x < 9) → sumW l ≤ 8 * l.length := by
  intro l h
  have : ∀ (l : List Nat) (a : Nat), (∀ x ∈ l, x < 9) → (l.map wid).foldl (· + ·) a ≤ a + 8 * l.length := by
    intro l
    induction l with
    | nil => intro a _; simp
    | cons x l ih =>
      intro a h
      simp only [List.map_cons, List.foldl_cons, List.length_cons]
      have h1 := ih (a + wid x) (fun y hy => h y (by simp [hy]))
      have h2 := wid_le x (h x (by simp))
      omega
  have := this l 0 h
  unfold sumW
  omega
theorem flds_len (k : Int) : (flds k).length ≤ 5 ∧ ∀ x ∈ flds k, x < 9 := by
  by_cases h : 0 ≤ k ∧ k < 12
  · obtain ⟨q, rfl⟩ := Int.eq_ofNat_of_zero_le h.1
    have hq : q < 12 := by omega
    rw [flds_nat hq]
    exact (show ∀ q, q < 12 → (fldL.getD q []).length ≤ 5 ∧ ∀ x ∈ fldL.getD q [], x < 9 by decide) q hq
  · rw [flds_out h]; simp

def SizeI (w : World) (b c0 : Nat) (pre : List Fl) (W : World) : Prop :=
  Below w.heap.size w W ∧ W.heap[b]? = some (.cells #[.int .i64 ((c0 + sumW (pre.map (fun x : Fl => x.1)) : Nat) : Int)] 3 (0, 0))
theorem SizeI.from {w : World} {b B c0 : Nat} (h2 : b < B) (h1 : w.heap.size ≤ B) : OwnFrom B (SizeI w b c0) := by
  rintro pre W W' row ⟨a1, a2⟩ hg hr
  exact ⟨a1.grown hg a1.size (fun k e => by have := (hr k e).1; omega), (hg.block _ (blk_lt a2) (fun e => by have := (hr _ e.symm).1; omega)).trans a2⟩
theorem size_on {w W : World} {b c0 : Nat} {pre : List Fl} (hI : SizeI w b c0 pre W) (x : Fl) (B : Nat) (hB : b < B) (hb : w.heap.size ≤ b) :
    KeepsFrom B W (W.drew.setCell ⟨b, 0, none⟩ (.int .i64 ((c0 + sumW (pre.map (fun x : Fl => x.1)) + wid x.1 : Nat) : Int))) ∧ True ∧ SizeI w b c0 (pre ++ [x]) (W.drew.setCell ⟨b, 0, none⟩ (.int .i64 ((c0 + sumW (pre.map (fun x : Fl => x.1)) + wid x.1 : Nat) : Int))) := by
  obtain ⟨h1, h2⟩ := hI
  have h2' : W.drew.heap[b]? = some (.cells #[.int .i64 ((c0 + sumW (pre.map (fun x : Fl => x.1)) : Nat) : Int)] 3 (0, 0)) := h2
  refine ⟨⟨by simp, fun k o hk ho _ => (Below.heap_setCell _ _ _ _ (by simp; omega)).trans ho⟩, trivial, (h1.drew).setCell (p := ⟨b, 0, none⟩) (by simpa using hb) _, ?_⟩
  rw [blk_set h2', List.map_append, List.map_cons, List.map_nil, sumW_snoc, Nat.add_assoc]
  rfl

set_option maxHeartbeats 4000000 in
theorem size_any {w : World} (hT : Tab w) (m : Msg) {A : Option Addr} (cap : Nat) (hC : ClaimsAt w A m.claims) (hl : m.claims.length ≤ 100000) (hg : m.gen < 4294967296) :
    Calls Tryd.prog 11 #[msgA m A m.claims.length cap] w fun e w' => e = .returned (.int .i64 ((if okM m then sizeM m else 0 : Nat) : Int)) ∧ Below w.heap.size w w' := by
  have HT := Lib.hid hT
  have HB0 : Hid (∀ o, Below w.heap.size w (w.alloc o)) := fun o => (Below.refl _ w).alloc (Nat.le_refl _) o
  have HM : Hid (∀ o, Calls Tryd.prog 8 #[msgA m A m.claims.length cap] (w.alloc o) fun e w' => e = .returned (.int .i64 (if okM m then 0 else 71)) ∧ Below (w.alloc o).heap.size (w.alloc o) w') :=
    fun o => check_any (HT.out.below (HB0.out o)) m cap (hC.below (HB0.out o)) hl hg
  obtain ⟨P, hP⟩ : ∃ P : Ending → World → Prop, P = fun e w' => e = .returned (.int .i64 ((if okM m then sizeM m else 0 : Nat) : Int)) ∧ Below w.heap.size w w' := ⟨_, rfl⟩
  have HQ1 : Hid (okM m = false → ∀ w', Below w.heap.size w w' → P (.returned (.int .i64 0)) w') := by rw [hP]; exact fun h w' hb => ⟨by rw [h]; rfl, hb⟩
  have HQ2 : Hid (okM m = true → ∀ w' n, n = sizeM m → Below w.heap.size w w' → P (.returned (.int .i64 (n : Nat))) w') := by rw [hP]; exact fun h w' n e hb => ⟨by rw [h, e]; rfl, hb⟩
  rw [← hP]
  clear hP hC hg hT
  generalize hn : (if okM m = true then (0 : Int) else 71) = n0 at HM
  refine (callsIn_wide (n := 9)).1 ?_
  refine callsIn_of_wp_marks Tryd.func11 rfl trivial ?_ rfl
  simp only [Tryd.ntmps11, List.size_toArray, List.length_cons, List.length_nil, Nat.reduceAdd, Nat.reduceSub, Array.replicate_succ, Array.replicate_zero, List.push_toArray, List.append_toArray, List.nil_append, List.cons_append]
  gi_wp2_with fail
  refine ⟨trivial, (callsIn_wide.2 (HM.out _)).mono ?_⟩
  rintro e w1 ⟨rfl, hb1⟩
  have hbW : Below w.heap.size w w1 := (HB0.out _).trans (hb1.mono (by simp))
  have hm1 : w1.heap[w.heap.size]? = some (.cells (msgC m A m.claims.length cap) 26 (0, 0)) := (hb1.block _ (by simp)).trans (World.alloc_heap_new w _)
  have HB := Lib.hid hbW
  have HMB := Lib.hid hm1
  clear hb1 hbW hm1 HM
  cases hok : okM m with
  | false =>
    rw [hok] at hn
    obtain rfl : n0 = 71 := hn.symm
    have HF := Lib.hid (HQ1.out hok w1 HB.out)
    clear hok hn
    gi_wp2
    refine ⟨_, results_tmp rfl _ _ _, ?_⟩
    exact HF.out
  | true =>
    rw [hok] at hn
    obtain rfl : n0 = 0 := hn.symm
    have HQ := Lib.hid (HQ2.out hok)
    clear hok hn HQ1 HQ2
    have k0 : w1.cell? ⟨w.heap.size, 0, none⟩ = some (.int .i64 m.kind) := by rw [blk_cell HMB.out]; rfl
    have k8 : w1.cell? ⟨w.heap.size, 8, none⟩ = some (.slice A m.claims.length cap) := by rw [blk_cell HMB.out]; rfl
    have k0' : ∀ o, (w1.alloc o).cell? ⟨w.heap.size, 0, none⟩ = some (.int .i64 m.kind) := fun o => ((Kept.refl (fun _ => False) w1).alloc o).cell k0 id
    have r1 : w1.cell? ⟨0, 3, none⟩ = some (.int .i64 2) := (HT.out.below HB.out).rw_ 1 (by omega)
    have r2 : w1.cell? ⟨0, 6, none⟩ = some (.int .i64 4) := (HT.out.below HB.out).rw_ 2 (by omega)
    gi_wp2_with fail
    refine ⟨trivial, (callsIn_wide.2 (named_any _ _)).mono ?_⟩
    rintro e w2 ⟨rfl, rfl⟩
    clear k0 k8 k0' r1 r2
    gi_wp2_with fail
    have e19 : (19 + (m.claims.length : Int) * 6) = ((19 + m.claims.length * 6 : Nat) : Int) := by push_cast; rfl
    simp only [e19]
    obtain ⟨c0, hc0⟩ : ∃ c0, c0 = 19 + m.claims.length * 6 := ⟨_, rfl⟩
    have hc0b : c0 ≤ 700000 := by omega
    rw [← hc0]
    have HC0 := Lib.hid hc0
    clear e19 hc0
    obtain ⟨W0, hW0⟩ : ∃ W0, namedW (w1.alloc (.cells #[.int .i64 (c0 : Int)] 3)) m.kind = W0 := ⟨_, rfl⟩
    have hz : W0.heap.size = w1.heap.size + 2 := by rw [← hW0]; simp [namedW]
    have hzw := HB.out.size
    have hK0 : Kept (fun _ => False) w1 W0 := by rw [← hW0]; exact ((Kept.refl _ w1).alloc _).alloc _
    have hl0 : W0.heap[w1.heap.size]? = some (.cells #[.int .i64 (c0 : Int)] 3 (0, 0)) := by
      rw [← hW0]
      exact (Below.heap_alloc _ _ _ (by simp)).trans (World.alloc_heap_new w1 _)
    have hk0 : W0.cell? ⟨w1.heap.size + 1, 0, none⟩ = some (.int .i64 m.kind) := by
      rw [← hW0]
      have := namedW_cell (w1.alloc (.cells #[.int .i64 (c0 : Int)] 3)) m.kind
      rwa [World.size_alloc] at this
    have hT0 := (HT.out.below HB.out).kept hK0 id id
    have h0 : SizeI w w1.heap.size c0 [] W0 := ⟨HB.out.trans (hK0.below (fun _ h => h.elim) hzw), hl0⟩
    rw [hW0]
    clear hW0 hK0 hl0
    have HK0 := Lib.hid hk0
    have HT0 := Lib.hid hT0
    have HI0 := Lib.hid h0
    clear hk0 hT0 h0
    refine wpIn_rangeFunc_ownG rfl (by omega) (gf := 31) (lb := #[.pointer (some ⟨w1.heap.size + 1, 0, none⟩)]) rfl trivial (enters_of Tryd.func31 (by kernel_rfl) rfl)
      (named_stops (9 - 1) (by omega) HT0.out HK0.out) (fun _ _ => trivial) (fun _ _ _ _ _ _ _ _ => trivial) (Below.refl _ _) (fun _ => rfl)
      (SizeI w w1.heap.size c0) (fun _ _ _ => False) (SizeI.from (by omega) (by omega)) (fun _ _ _ _ _ h _ _ => h) HI0.out
      (fun x => { tmps := #[msgA m A m.claims.length cap, .pointer (some ⟨w.heap.size, 0, none⟩), .int .i64 0, .pointer (some ⟨w1.heap.size, 0, none⟩), .int .i64 (x.1 : Nat), msgA m A m.claims.length cap, .int .i64 0, .bool false, .pointer (some ⟨w.heap.size, 8, none⟩), .slice A m.claims.length cap, .int .i64 (m.claims.length : Nat), .pointer (some ⟨0, 3, none⟩), .pointer (some ⟨0, 3, none⟩), .int .i64 2, .pointer (some ⟨0, 6, none⟩), .pointer (some ⟨0, 6, none⟩), .int .i64 4, .int .i64 6, .int .i64 ((m.claims.length : Nat) * 6), .int .i64 (c0 : Nat), .pointer (some ⟨w.heap.size, 0, none⟩), .int .i64 m.kind, .func (.func 31) #[] #[.pointer (some ⟨w1.heap.size + 1, 0, none⟩)], .int .i64 (x.1 : Nat), undef, undef, undef, undef, undef, undef, undef, undef], defers := [] })
      ?assign ?body ?done ?stop
    case assign =>
      intro l x W K hK
      simp only [flV]
      gi_wp2
      exact hK
    case body =>
      rintro l pre x W hI hlen
      have c1 : W.cell? ⟨w1.heap.size, 0, none⟩ = some (.int .i64 ((c0 + sumW (pre.map (fun x : Fl => x.1)) : Nat) : Int)) := by rw [blk_cell hI.2]; rfl
      have c2 := (HT.out.below hI.1).rw_ x.1 (by have := x.2; omega)
      have c3 := blk_free hI.2 0
      have HO := Lib.hid (size_on hI x W0.heap.size (by omega) (by omega))
      have hb1 : sumW (pre.map (fun x : Fl => x.1)) ≤ 8 * 5 := by
        have := sumW_le (pre.map (fun x : Fl => x.1)) (fun y hy => by obtain ⟨z, _, rfl⟩ := List.mem_map.1 hy; have := z.2; omega)
        rw [List.length_map] at this
        omega
      have hb2 := wid_le x.1 (by have := x.2; omega)
      have hx := x.2
      have hx9 : (x.1 : Int) < 9 := by omega
      have hw : IntKind.i64.wrap ((c0 : Int) + ((sumW (pre.map (fun x : Fl => x.1)) : Nat) : Int) + ((wid x.1 : Nat) : Int)) = ((c0 + sumW (pre.map (fun x : Fl => x.1)) + wid x.1 : Nat) : Int) := by rw [wrap_w64]; unfold w64; omega
      clear hI
      generalize pre ++ [x] = pre2 at *
      generalize sumW (pre.map (fun x : Fl => x.1)) = s at *
      generalize x.1 = f at *
      generalize wid f = u at *
      gi_wp2_with fail
      refine wpIn_tail_round 6 (by kernel_rfl) (by kernel_rfl) (by kernel_rfl) ?_
      simp only [List.take_succ_cons, List.take_zero, List.drop_succ_cons, List.drop_zero]
      repeat still_step
      refine wpStill_nil ?_
      change wpList _ _ _ _ _ W.drew
      go_wp2
      exact HO.out
    case done =>
      rintro D xs W hD hS ⟨b1, b2⟩ hK
      have hS' : (xs.map (fun x : Fl => x.1)) = flds m.kind := hS
      rw [hS'] at b2
      have hs := sumW_le (flds m.kind) (flds_len m.kind).2
      have hs2 := (flds_len m.kind).1
      have e1 : 2 * (c0 + sumW (flds m.kind)) = sizeM m := by rw [HC0.out]; rfl
      have k1 : W.cell? ⟨w1.heap.size, 0, none⟩ = some (.int .i64 ((c0 + sumW (flds m.kind) : Nat) : Int)) := by rw [blk_cell b2]; rfl
      have HFIN : Hid (P (.returned (.int .i64 ((2 * (c0 + sumW (flds m.kind)) : Nat) : Int))) (W.putObj D (.deferred none))) :=
        HQ.out _ _ e1 (b1.trans (belowK_b (w := W0) (by omega) W D _ _ hD hK rfl rfl))
      have hb : sumW (flds m.kind) ≤ 40 := by omega
      clear b1 b2 hS hS' hs hs2 e1
      generalize sumW (flds m.kind) = s at *
      gi_wp2
      refine ⟨by simp, .inl ⟨_, _, rfl, run_takeDeferred hK, ?_⟩⟩
      refine ⟨_, results_tmp rfl _ _ _, ?_⟩
      exact HFIN.out
    case stop =>
      rintro D c pre W hD hS h
      exact h.elim
end Go.Proofs.YtmfbokaaoffdnaaDoor
