/-
  The document's queue: Cut, All.
-/
import Derived.Test.YtnecmlkljijofaaSpq2
import Derived.Laws.MakeOwn
import Derived.Laws.AppendOwn
import Derived.Deep.RegionHeld3
import Derived.Deep.Cut
namespace Go.Proofs.Ytnecmlkljijofaa
set_option maxRecDepth 100000
set_option linter.unusedSimpArgs false
open Go Go.RowKit Sp
attribute [local go_sem] Oper.semAt_some

theorem row_base {w : World} {B B' : Nat} {e : TypeId} {size : Nat} {v : Value} {n : Nat} {xs : List Value} (h : w.ownsRow B e size v n xs) (hB : B' ≤ B) : w.ownsRow B' e size v n xs := by
  refine ⟨h.1, ?_⟩
  rcases h.2 with hn | ⟨g, cap, cur, rfl, hb, rest⟩
  · exact .inl hn
  · exact .inr ⟨g, cap, cur, rfl, Nat.le_trans hB hb, rest⟩
theorem makeWts_run (N : Nat) (hN : N ≤ 100000) (w : World) : (Instr.makeSlice 45 (.int .i64 (N : Int)) (.int .i64 (N : Int))).run Try.prog w = .ok (.slice (some ⟨w.heap.size, 0, none⟩) N N) (w.alloc (.cells (madeCells #[.int .i64 0, .int .u64 0, .int .i64 0] (N * 3)) 40)) := by
  obtain ⟨i0, hi, hz0, hz1, hz2⟩ := info_parts Try.infoWt3
  have := run_make (P := Try.prog) w 45 40 i0 (.agg #[.int .i64 0, .int .u64 0, .int .i64 0]) Try.underlying45 hi hz0 .i64 .i64 (N : Int) (N : Int) (by omega) (Int.le_refl _) (by rw [hz2]; omega) (by omega)
  rw [hz1] at this
  simp only [Int.toNat_natCast] at this
  exact this
theorem made_w : ∀ N, N ≤ 8 → madeCells #[Value.int .i64 0, .int .u64 0, .int .i64 0] (N * 3) = (csA (List.replicate N w0)).toArray
  | 0, _ => by kernel_rfl
  | 1, _ => by kernel_rfl
  | 2, _ => by kernel_rfl
  | 3, _ => by kernel_rfl
  | 4, _ => by kernel_rfl
  | 5, _ => by kernel_rfl
  | 6, _ => by kernel_rfl
  | 7, _ => by kernel_rfl
  | 8, _ => by kernel_rfl
  | N + 9, h => by omega
/-- A part of the document's list, cell by cell. -/
theorem RQ.src {w : World} {b g cap : Nat} {m : List Wt} (h : RQ w b (.slice (some ⟨g, 0, none⟩) m.length cap) m) {i k : Nat} : ∀ j u, (csA ((m.drop i).take k))[j]? = some u → w.cell? ((⟨g, i * 3, none⟩ : Addr).add j) = some u := by
  intro j u hu
  have e : (⟨g, i * 3, none⟩ : Addr).add j = ⟨g, i * 3 + j, none⟩ := by unfold Addr.add; split <;> simp_all
  rw [csA_take, csA_drop, List.getElem?_take] at hu
  split at hu
  · rw [List.getElem?_drop] at hu
    have := h.2.cells (g := g) rfl (i * 3 + j) u hu
    have e2 : (⟨g, 0, none⟩ : Addr).add (i * 3 + j) = ⟨g, i * 3 + j, none⟩ := by unfold Addr.add; split <;> simp_all
    rw [e2] at this
    rw [e]; exact this
  · cases hu

set_option maxHeartbeats 4000000 in
theorem rcut_any {w : World} {b : Nat} {v : Value} {m : List Wt} (h : RQ w b v m) (hm : m.length ≤ 8) (r : Int) :
    Calls Try.prog 19 #[.pointer (some ⟨b, 0, none⟩), .int .i64 r] w (RPost w b v (rcutL m r) (.bool (has m r))) := by
  obtain ⟨P, hP⟩ : ∃ P : Ending → World → Prop, P = RPost w b v (rcutL m r) (.bool (has m r)) := ⟨_, rfl⟩
  have HP : Hid (∀ v' w', RQ w' b v' (rcutL m r) → Kept (OfR b v) w w' → (v'.ownBlock = v.ownBlock ∨ ∀ k, v'.ownBlock = some k → w.heap.size ≤ k) → P (.returned (.bool (has m r))) w') := by
    rw [hP]; exact fun v' w' h1 h2 h3 => ⟨rfl, v', h1, h2, h3⟩
  rw [← hP]
  clear hP
  have HF1 := Lib.hid (rfind_any h hm r)
  by_cases hh : has m r = true
  · have hi : idx m r < m.length := by simpa [has] using hh
    have hat : atI m r = ((idx m r : Nat) : Int) := by unfold atI; rw [if_pos hh]
    rw [hat] at HF1
    obtain ⟨g, cap, rfl, _, _⟩ := h.places hi
    have g5 : decide (((idx m r : Nat) : Int) < 0) = false := by simp
    have hq0 := h.cell.1
    obtain ⟨i0, hi0, hz0, hz1, hz2⟩ := info_parts Try.infoWt3
    have hcap : m.length ≤ cap := by
      rcases h.2.2 with ⟨h1, _⟩ | ⟨g', cap', cur, h1, _, _, hle, _⟩
      · cases h1
      · cases h1; exact hle
    have hbl := h.lt
    have hgl := (h.vlt (k := g) rfl).2
    have HS1 : Hid (∀ j u, (csA (m.take (idx m r)))[j]? = some u → w.cell? ((⟨g, 0, none⟩ : Addr).add j) = some u) := by
      intro j u hu
      have := h.src (i := 0) (k := idx m r) j u (by simpa using hu)
      simpa using this
    have HL1 : Hid ((csA (m.take (idx m r))).length = idx m r * 3) := by show _ = _; rw [csA_length, List.length_take]; omega
    have HL2 : Hid ((csA (m.drop (idx m r + 1))).length = (m.length - (idx m r + 1)) * 3) := by show _ = _; rw [csA_length, List.length_drop]
    have HO1 := Lib.hid (csA_one (m.take (idx m r)))
    have HO2 := Lib.hid (csA_one (m.drop (idx m r + 1)))
    have HS2 : Hid (∀ w1 : World, w1.heap[g]? = w.heap[g]? → ∀ S : Addr, (S = if cap = idx m r + 1 then ⟨g, 0, none⟩ else ⟨g, (idx m r + 1) * 3, none⟩) → ∀ j u, (csA (m.drop (idx m r + 1)))[j]? = some u → w1.cell? (S.add j) = some u) := by
      intro w1 hw1 S hS j u hu
      have hj := (List.getElem?_eq_some_iff.1 hu).1
      rw [HL2.out] at hj
      by_cases hc : cap = idx m r + 1
      · exfalso; have : m.length - (idx m r + 1) = 0 := by omega
        rw [this] at hj; omega
      · rw [if_neg hc] at hS
        subst hS
        have h0 := h.src (i := idx m r + 1) (k := m.length) j u (by rw [List.take_of_length_le (by rw [List.length_drop]; omega)]; exact hu)
        have e : (⟨g, (idx m r + 1) * 3, none⟩ : Addr).add j = ⟨g, (idx m r + 1) * 3 + j, none⟩ := by unfold Addr.add; split <;> simp_all
        rw [e] at h0 ⊢
        rw [World.cell?_of_block (a := ⟨g, (idx m r + 1) * 3 + j, none⟩) hw1]; exact h0
    have HFin : Hid (∀ v1 w1 v2 w2, w1.ownsRow w.heap.size 40 3 v1 (idx m r) (csA (m.take (idx m r))) → w.grownBy w1 none → w2.ownsRow w.heap.size 40 3 v2 (idx m r + (m.length - (idx m r + 1))) (csA (m.take (idx m r)) ++ csA (m.drop (idx m r + 1))) → w1.grownBy w2 v1.ownBlock →
        (w2.cell? ⟨b, 0, none⟩ = some (.slice (some ⟨g, 0, none⟩) m.length cap) ∧ w2.frozen? ⟨b, 0, none⟩ = false) ∧ P (.returned (.bool true)) (w2.setCell ⟨b, 0, none⟩ v2)) := by
      intro v1 w1 v2 w2 h1 g1 h2 g2
      have hv1 : ∀ k, v1.ownBlock = some k → w.heap.size ≤ k := by
        intro k hk
        rcases h1.2 with ⟨rfl, _⟩ | ⟨g', cap', cur, rfl, hb', _⟩
        · cases hk
        · have : g' = k := by simpa [Value.ownBlock] using hk
          omega
      have hv2 : ∀ k, v2.ownBlock = some k → w.heap.size ≤ k := by
        intro k hk
        rcases h2.2 with ⟨rfl, _⟩ | ⟨g', cap', cur, rfl, hb', _⟩
        · cases hk
        · have : g' = k := by simpa [Value.ownBlock] using hk
          omega
      have k2 : Kept (fun _ => False) w w2 := ((Kept.refl (fun _ => False) w).grown g1 (fun k e => by cases e)).grown g2 (fun k e => .inr (hv1 k e))
      have b2 : w2.heap[b]? = some (.cells #[.slice (some ⟨g, 0, none⟩) m.length cap] 47 (0, 0)) := (k2.block b hbl id).trans h.1
      refine ⟨⟨by rw [blk_cell b2]; rfl, blk_free b2 0⟩, ?_⟩
      have hc : rcutL m r = m.eraseIdx (idx m r) := by unfold rcutL; rw [if_pos hh]
      have := HP.out v2 (w2.setCell ⟨b, 0, none⟩ v2) ⟨by rw [blk_set b2]; rfl, ?_⟩ ((k2.mono (Y := OfR b (.slice (some ⟨g, 0, none⟩) m.length cap)) (fun _ _ h => h.elim)).setCell (p := ⟨b, 0, none⟩) (.inl (.inl rfl)) _) (.inr hv2)
      · rw [hh] at this; exact this
      · rw [hc, List.length_eraseIdx, if_pos hi, List.eraseIdx_eq_take_drop_succ, csA_append, show m.length - 1 = idx m r + (m.length - (idx m r + 1)) by omega]
        exact row_base (Kept.row ((Kept.refl (fun k => k = b) w2).setCell (p := ⟨b, 0, none⟩) (.inl rfl) _) h2 (fun k hk e => by have := hv2 k hk; omega)) (by omega)
    have HN := Lib.hid (World.ownsRow_nil w w.heap.size 40 3)
    clear HP hat hh h
    generalize csA (m.take (idx m r)) = xs1 at *
    generalize csA (m.drop (idx m r + 1)) = xs2 at *
    generalize idx m r = i at *
    generalize m.length = n at *
    have ic : (i : Int) ≤ (cap : Int) := by omega
    have i0' : (0 : Int) ≤ (i : Int) := by omega
    have i1' : (0 : Int) ≤ (i : Int) + 1 := by omega
    have i1n : (i : Int) + 1 ≤ (n : Int) := by omega
    have i1c : (i : Int) + 1 ≤ (cap : Int) := by omega
    have ncap : (n : Int) ≤ (cap : Int) := by omega
    have hwi : IntKind.i64.wrap ((i : Int) + 1) = (i : Int) + 1 := IntWalk.i64_in _ (by omega)
    go_enter Try.func19, Try.ntmps19
    go_wp2_with fail
    refine HF1.out.mono ?_
    rintro e W' ⟨rfl, rfl⟩
    clear HF1
    go_upto_region 6 with (at_builtin; refine wpList_append_own _ rfl (.tmp 12) (.tmp 18) 45 rfl w.heap.size 40 i0 (.agg #[.int .i64 0, .int .u64 0, .int .i64 0]) 3 24 Try.underlying45 hi0 hz0 hz1 hz2 rfl (by decide) (.slice none 0 0) 0 [] rfl HN.out ⟨g, 0, none⟩ i cap xs1 (by first | rfl | simp [Act.eval]) HL1.out HS1.out HO1.out (by unfold maxLen; omega) (by omega) (Nat.le_refl _) ?_; intro v1 w1 hown1 hgrow1 _)
    rw [Nat.zero_add, List.nil_append] at hown1
    have hg1 : w.grownBy w1 none := hgrow1
    have k1 : Kept (fun _ => False) w w1 := (Kept.refl (fun _ => False) w).grown hg1 (fun k e => by cases e)
    have b1 : w1.cell? ⟨b, 0, none⟩ = some (.slice (some ⟨g, 0, none⟩) n cap) := k1.cell hq0 id
    obtain ⟨S, hS⟩ : ∃ S : Addr, S = if cap = i + 1 then (⟨g, 0, none⟩ : Addr) else ⟨g, (i + 1) * 3, none⟩ := ⟨_, rfl⟩
    have hSs : (if cap = i + 1 then some (⟨g, 0, none⟩ : Addr) else some ⟨g, (i + 1) * 3, none⟩) = some S := by rw [hS]; split <;> rfl
    have HS2' := Lib.hid (HS2.out w1 (k1.block g hgl id) S hS)
    have HW1 := Lib.hid hown1
    have HZ1 : Hid (w.heap.size ≤ w1.heap.size) := k1.size
    have HF2 := Lib.hid (fun v2 w2 => HFin.out v1 w1 v2 w2 hown1 hg1)
    clear HS2 HFin hown1 hgrow1 hg1 k1 hS HN HS1 hq0
    go_wp2_with (at_builtin; refine wpList_append_own _ rfl (.tmp 21) (.tmp 28) 45 rfl w.heap.size 40 i0 (.agg #[.int .i64 0, .int .u64 0, .int .i64 0]) 3 24 Try.underlying45 hi0 hz0 hz1 hz2 rfl (by decide) v1 i xs1 rfl HW1.out S (n - (i + 1)) (cap - (i + 1)) xs2 (by simp [Act.eval, hSs]) HL2.out HS2'.out HO2.out (by unfold maxLen; omega) (by omega) HZ1.out ?_; intro v2 w2 hown2 hgrow2 _; obtain ⟨A2, n2, c2, hv2⟩ : ∃ A n c, v2 = .slice A n c := (by rcases hown2.2 with ⟨e, _⟩ | ⟨g2, c2, _, e, _⟩ <;> exact ⟨_, _, _, e⟩); subst hv2; obtain ⟨⟨hq1, hq2⟩, hq3⟩ := HF2.out _ w2 hown2 hgrow2; have HZ := Lib.hid hq3; clear hown2 hgrow2 hq3)
    exact HZ.out
  · have hh' : has m r = false := by simpa using hh
    have hat : atI m r = -1 := by unfold atI; rw [if_neg hh]
    rw [hat] at HF1
    rw [show rcutL m r = m by unfold rcutL; rw [if_neg hh], hh'] at HP
    have HF := Lib.hid (HP.out _ _ h (Kept.refl _ _) (.inl rfl))
    clear HP hat hh hh' h
    go_enter Try.func19, Try.ntmps19
    go_wp2_with fail
    refine HF1.out.mono ?_
    rintro e W' ⟨rfl, rfl⟩
    clear HF1
    go_wp2
    exact HF.out
end Go.Proofs.Ytnecmlkljijofaa
