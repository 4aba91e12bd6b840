/-
  segment.Plan: Len, has, Segment, Cells, Kind, Map.
-/
import Derived.Test.YtekhlaodlagbdaaGreatDoorSgF
import Derived.Test.YtekhlaodlagbdaaGreatDoorSgU
namespace Go.Proofs.YtekhlaodlagbdaaGreatDoor
set_option maxRecDepth 100000
set_option linter.unusedSimpArgs false
open Go Go.RowKit

/-- A plan in memory, what it is not needed to know left out. -/
def PlanS (bm gm cm R C : Nat) (ms : List UInt8) (p : Nat) (st : Sg.Pl) (w : World) : Prop := ∃ bo Bs V vc vk, PlanAt bm gm cm R C ms p bo Bs st V vc vk w
section
variable {bm gm cm R C : Nat} {ms : List UInt8} {p : Nat} {st : Sg.Pl} {w w' : World}
theorem PlanS.still (h : PlanS bm gm cm R C ms p st w) (hb : Below w.heap.size w w') : PlanS bm gm cm R C ms p st w' := by
  obtain ⟨bo, Bs, V, vc, vk, h⟩ := h
  exact ⟨bo, Bs, V, vc, vk, h.still hb⟩
theorem PlanS.em (h : PlanS bm gm cm R C ms p st w) : EM bm gm cm R C ms w := by
  obtain ⟨bo, Bs, V, vc, vk, h⟩ := h
  exact h.em
theorem PlanS.done (h : PlanS bm gm cm R C ms p st w) : DoneC bm w := by
  obtain ⟨bo, Bs, V, vc, vk, h⟩ := h
  exact h.done
theorem PlanS.len (h : PlanS bm gm cm R C ms p st w) : st.of.length = ms.length := by
  obtain ⟨bo, Bs, V, vc, vk, h⟩ := h
  exact h.pl.len

set_option maxHeartbeats 400000 in
theorem plen_any (h : PlanS bm gm cm R C ms p st w) {n : Nat} (hn : st.cells.length = n) : Calls Tryz.prog 18 #[.pointer (some ⟨p, 0, none⟩)] w fun e w' => e = .returned (.int .i64 (n : Int)) ∧ w = w' := by
  subst hn
  obtain ⟨bo, Bs, V, vc, vk, h⟩ := h
  have hb := h.pl.blk
  obtain ⟨a, c, hv⟩ := row_slice h.pl.rc
  have d2 : w.cell? ⟨p, 2, none⟩ = some (.slice a st.cells.length c) := by rw [blk_cell hb, ← hv]; rfl
  clear h hb hv
  go_enter Tryz.func18, Tryz.ntmps18
  go_wp2
  go_ret
  exact ⟨rfl, rfl⟩
set_option maxHeartbeats 400000 in
theorem plen_none (w : World) : Calls Tryz.prog 18 #[.pointer none] w fun e w' => e = .returned (.int .i64 0) ∧ w = w' := by
  go_enter Tryz.func18, Tryz.ntmps18
  go_wp2
  go_ret
  exact ⟨rfl, rfl⟩
/-- Is there such a segment? -/
def hasZ (st : Sg.Pl) (s : Int) : Bool := decide (0 ≤ s) && decide (s < (st.cells.length : Int))
set_option maxHeartbeats 400000 in
theorem phas_any (h : PlanS bm gm cm R C ms p st w) (s : Int) {b : Bool} (hb : hasZ st s = b) : Calls Tryz.prog 60 #[.pointer (some ⟨p, 0, none⟩), .int .i64 s] w fun e w' => e = .returned (.bool b) ∧ w = w' := by
  subst hb
  have HL := Lib.hid (plen_any h rfl)
  unfold hasZ
  generalize st.cells.length = n at *
  clear h
  by_cases h0 : 0 ≤ s
  · go_enter Tryz.func60, Tryz.ntmps60
    go_wp2_with (go_at_call 18; (with_reducible refine HL.out.mono ?_); rintro e w' ⟨rfl, rfl⟩)
    go_ret
    exact ⟨by simp [h0], rfl⟩
  · have HF : Hid ((decide (0 ≤ s) && decide (s < (n : Int))) = false) := by show _ = _; rw [decide_eq_false h0]; rfl
    go_enter Tryz.func60, Tryz.ntmps60
    go_wp2_with (go_at_call 18; (with_reducible refine HL.out.mono ?_); rintro e w' ⟨rfl, rfl⟩)
    go_ret
    exact ⟨by rw [HF.out]; rfl, rfl⟩
/-- A cell's segment. -/
def segZ (N : Nat) (st : Sg.Pl) (c : Int) : Int := if 0 ≤ c ∧ c < (N : Int) then st.of.getD c.toNat 0 else -1
set_option maxHeartbeats 800000 in
theorem pseg_any (h : PlanS bm gm cm R C ms p st w) (c : Int) {v : Int} (hv : segZ ms.length st c = v) : Calls Tryz.prog 23 #[.pointer (some ⟨p, 0, none⟩), .int .i64 c] w fun e w' => e = .returned (.int .i64 v) ∧ w = w' := by
  subst hv
  obtain ⟨bo, Bs, V, vc, vk, h⟩ := h
  have d1 : w.cell? ⟨p, 1, none⟩ = some (.slice (some ⟨bo, 0, none⟩) ms.length ms.length) := by rw [blk_cell h.pl.blk]; rfl
  unfold segZ
  by_cases h0 : 0 ≤ c
  · by_cases h1 : c < (ms.length : Int)
    · rw [if_pos ⟨h0, h1⟩]
      obtain ⟨x, rfl⟩ := Int.eq_ofNat_of_zero_le h0
      have d2 : w.cell? ⟨bo, x, none⟩ = some (.int .i64 (st.of.getD x 0)) := by
        rw [blk_cell h.pl.of]
        exact of_cell _ (by rw [h.pl.len]; omega)
      simp only [Int.toNat_natCast]
      generalize st.of.getD x 0 = o at *
      have k1 : ¬ (x : Int) < 0 := by omega
      have k2 : ¬ (ms.length : Int) ≤ (x : Int) := by omega
      clear h
      generalize ms.length = N at *
      go_enter Tryz.func23, Tryz.ntmps23
      go_wp2
      go_ret
      exact ⟨rfl, rfl⟩
    · rw [if_neg (by omega)]
      have k2 : (ms.length : Int) ≤ c := by omega
      clear h
      generalize ms.length = N at *
      go_enter Tryz.func23, Tryz.ntmps23
      go_wp2
      go_ret
      exact ⟨rfl, rfl⟩
  · rw [if_neg (by omega)]
    have k2 : c < 0 := by omega
    clear h
    generalize ms.length = N at *
    go_enter Tryz.func23, Tryz.ntmps23
    go_wp2
    go_ret
    exact ⟨rfl, rfl⟩
/-- A segment's cells. -/
def cellsZ (st : Sg.Pl) (s : Int) : List Nat := if hasZ st s = true then st.cells.getD s.toNat [] else []
/-- A list of new memory. -/
def NewP (w : World) (l : List Nat) (e : Ending) (w' : World) : Prop := ∃ v, e = .returned v ∧ w'.ownsRow w.heap.size 3 1 v l.length (l.map natV) ∧ Below w.heap.size w w'
set_option maxHeartbeats 800000 in
theorem pcells_any (h : PlanS bm gm cm R C ms p st w) (s : Int) (hl : (cellsZ st s).length ≤ 100000) : Calls Tryz.prog 19 #[.pointer (some ⟨p, 0, none⟩), .int .i64 s] w (NewP w (cellsZ st s)) := by
  have HH : Hid (∀ b, hasZ st s = b → Calls Tryz.prog 60 #[.pointer (some ⟨p, 0, none⟩), .int .i64 s] w fun e w' => e = .returned (.bool b) ∧ w = w') := fun b hb => phas_any h s hb
  unfold cellsZ at hl ⊢
  cases hb : hasZ st s with
  | false =>
    have HH' := Lib.hid (HH.out false hb)
    simp only [Bool.false_eq_true, if_false]
    clear h HH hb hl
    go_enter Tryz.func19, Tryz.ntmps19
    go_wp2_with (go_at_call 60; (with_reducible refine HH'.out.mono ?_); rintro e w' ⟨rfl, rfl⟩)
    go_ret
    exact ⟨_, rfl, World.ownsRow_nil _ _ _ _, Below.refl _ _⟩
  | true =>
    have HH' := Lib.hid (HH.out true hb)
    rw [hb] at hl
    simp only [if_true] at hl ⊢
    unfold hasZ at hb
    rw [Bool.and_eq_true, decide_eq_true_eq, decide_eq_true_eq] at hb
    obtain ⟨x, rfl⟩ := Int.eq_ofNat_of_zero_le hb.1
    simp only [Int.toNat_natCast] at hl ⊢
    obtain ⟨bo, Bs, V, vc, vk, h⟩ := h
    have hx : x < st.cells.length := by omega
    obtain ⟨hr, _⟩ := h.pl.rows x hx
    have HC := Lib.hid (clone_any hr hl (nat_one _))
    obtain ⟨g, cap, hvc, hg, hcl⟩ : ∃ g c, vc = .slice (some ⟨g, 0, none⟩) st.cells.length c ∧ Bs ≤ g ∧ w.cell? ⟨g, x, none⟩ = some (V x) := by
      rcases h.pl.rc.2 with ⟨_, h1⟩ | ⟨g, cap, cur, rfl, h1, _⟩
      · omega
      · refine ⟨g, cap, rfl, h1, ?_⟩
        rw [h.pl.rc.cellAt x (by omega)]
        simp [hx]
    have d2 : w.cell? ⟨p, 2, none⟩ = some (.slice (some ⟨g, 0, none⟩) st.cells.length cap) := by rw [blk_cell h.pl.blk, hvc]; rfl
    have k1 : (x : Int) < (st.cells.length : Int) := by omega
    have k0 : (0 : Int) ≤ (x : Int) := by omega
    clear h HH hb hl hr hvc
    generalize st.cells.getD x [] = l at *
    generalize st.cells.length = n at *
    generalize V x = vx at *
    go_enter Tryz.func19, Tryz.ntmps19
    go_wp2_with (first
      | (go_at_call 60; (with_reducible refine HH'.out.mono ?_); rintro e w' ⟨rfl, rfl⟩)
      | (go_at_call 61; (with_reducible refine HC.out.mono ?_); rintro e w2 ⟨v', rfl, ho2, hb2⟩; have HO2 := Lib.hid ho2; have HB2 := Lib.hid hb2; clear ho2 hb2))
    go_ret
    exact ⟨v', rfl, HO2.out, HB2.out⟩
/-- Its kind. -/
def kindZ (st : Sg.Pl) (s : Int) : Nat := if hasZ st s = true then st.kinds.getD s.toNat 0 else 0
set_option maxHeartbeats 800000 in
theorem pkind_any (h : PlanS bm gm cm R C ms p st w) (s : Int) (hkl : st.kinds.length = st.cells.length) {k : Nat} (hk : kindZ st s = k) : Calls Tryz.prog 21 #[.pointer (some ⟨p, 0, none⟩), .int .i64 s] w fun e w' => e = .returned (.int .i64 (k : Int)) ∧ w = w' := by
  subst hk
  have HH : Hid (∀ b, hasZ st s = b → Calls Tryz.prog 60 #[.pointer (some ⟨p, 0, none⟩), .int .i64 s] w fun e w' => e = .returned (.bool b) ∧ w = w') := fun b hb => phas_any h s hb
  unfold kindZ
  cases hb : hasZ st s with
  | false =>
    have HH' := Lib.hid (HH.out false hb)
    simp only [Bool.false_eq_true, if_false]
    clear h HH hb
    go_enter Tryz.func21, Tryz.ntmps21
    go_wp2_with (go_at_call 60; (with_reducible refine HH'.out.mono ?_); rintro e w' ⟨rfl, rfl⟩)
    go_ret
    exact ⟨rfl, rfl⟩
  | true =>
    have HH' := Lib.hid (HH.out true hb)
    simp only [if_true]
    unfold hasZ at hb
    rw [Bool.and_eq_true, decide_eq_true_eq, decide_eq_true_eq] at hb
    obtain ⟨x, rfl⟩ := Int.eq_ofNat_of_zero_le hb.1
    simp only [Int.toNat_natCast]
    obtain ⟨bo, Bs, V, vc, vk, h⟩ := h
    have hx : x < st.kinds.length := by omega
    obtain ⟨g, cap, hvk, hg, hcl⟩ := row_cells h.pl.rk (by omega)
    have d3 : w.cell? ⟨p, 3, none⟩ = some (.slice (some ⟨g, 0, none⟩) st.kinds.length cap) := by rw [blk_cell h.pl.blk, hvk]; rfl
    have d4 := hcl x hx
    have k1 : (x : Int) < (st.kinds.length : Int) := by omega
    have k0 : (0 : Int) ≤ (x : Int) := by omega
    clear h HH hb hvk hcl hkl
    generalize st.kinds.getD x 0 = kd at *
    generalize st.kinds.length = n at *
    go_enter Tryz.func21, Tryz.ntmps21
    go_wp2_with (go_at_call 60; (with_reducible refine HH'.out.mono ?_); rintro e w' ⟨rfl, rfl⟩)
    go_ret
    exact ⟨rfl, rfl⟩
set_option maxHeartbeats 400000 in
theorem pmap_any (h : PlanS bm gm cm R C ms p st w) : Calls Tryz.prog 33 #[.pointer (some ⟨p, 0, none⟩)] w fun e w' => e = .returned (.pointer (some ⟨bm, 0, none⟩)) ∧ w = w' := by
  obtain ⟨bo, Bs, V, vc, vk, h⟩ := h
  have d0 : w.cell? ⟨p, 0, none⟩ = some (.pointer (some ⟨bm, 0, none⟩)) := by rw [blk_cell h.pl.blk]; rfl
  clear h
  go_enter Tryz.func33, Tryz.ntmps33
  go_wp2
  go_ret
  exact ⟨rfl, rfl⟩
end
end Go.Proofs.YtekhlaodlagbdaaGreatDoor
