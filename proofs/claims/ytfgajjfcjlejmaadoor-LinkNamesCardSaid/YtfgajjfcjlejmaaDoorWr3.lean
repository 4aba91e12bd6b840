/-
  The iterator that tells a kind's fields.
-/
import Derived.Test.YtfgajjfcjlejmaaDoorWr1
import Derived.RangeFuncNested
import Derived.RangeFuncBound
import Derived.RangeFuncCalls
import Derived.RangeFuncLeaves
import Derived.Shelf.Abstract
import Derived.Shelf.RegionOpen
import Derived.OwnWalkIn
import Derived.TacticsInMore
import Derived.LoopNIn
import Derived.LoopIn
import Derived.Deep.QuietTactic
import Derived.BigQuiet
import Derived.Sort.QuietIn
import Derived.Stop.RegionWithIn
namespace Go.Proofs.YtfgajjfcjlejmaaDoor
set_option maxRecDepth 100000
set_option linter.unusedSimpArgs false
open Go Go.RowKit Wr
attribute [local go_sem] Oper.semAt_some

abbrev Fl := { x : Nat // 1 ≤ x ∧ x ≤ 8 }
def flV (x : Fl) : Array Value := #[.int .i64 (x.1 : Nat)]

theorem fld_ix0 (v0 v1 v2 v3 v4 : Value) : ∀ w, (Instr.index 150 (.agg #[v0, v1, v2, v3, v4]) (.int .i64 0)).run Tryd.prog w = .ok v0 w := fun _ => by kernel_rfl
theorem fld_ix1 (v0 v1 v2 v3 v4 : Value) : ∀ w, (Instr.index 150 (.agg #[v0, v1, v2, v3, v4]) (.int .i64 1)).run Tryd.prog w = .ok v1 w := fun _ => by kernel_rfl
theorem fld_ix2 (v0 v1 v2 v3 v4 : Value) : ∀ w, (Instr.index 150 (.agg #[v0, v1, v2, v3, v4]) (.int .i64 2)).run Tryd.prog w = .ok v2 w := fun _ => by kernel_rfl
theorem fld_ix3 (v0 v1 v2 v3 v4 : Value) : ∀ w, (Instr.index 150 (.agg #[v0, v1, v2, v3, v4]) (.int .i64 3)).run Tryd.prog w = .ok v3 w := fun _ => by kernel_rfl
theorem fld_ix4 (v0 v1 v2 v3 v4 : Value) : ∀ w, (Instr.index 150 (.agg #[v0, v1, v2, v3, v4]) (.int .i64 4)).run Tryd.prog w = .ok v4 w := fun _ => by kernel_rfl
theorem fld_index (f : Nat → Value) {j : Nat} (hj : j < 5) (w : World) : (Instr.index 150 (.agg #[f 0, f 1, f 2, f 3, f 4]) (.int .i64 (j : Int))).run Tryd.prog w = .ok (f j) w := by
  have h : j = 0 ∨ j = 1 ∨ j = 2 ∨ j = 3 ∨ j = 4 := by omega
  rcases h with rfl | rfl | rfl | rfl | rfl
  · exact fld_ix0 _ _ _ _ _ w
  · exact fld_ix1 _ _ _ _ _ w
  · exact fld_ix2 _ _ _ _ _ w
  · exact fld_ix3 _ _ _ _ _ w
  · exact fld_ix4 _ _ _ _ _ w

theorem fld_fact : ∀ k, k < 12 → (fldL.getD k []).length ≤ 5 ∧ ∀ j, j < 5 → (fldA k j = 0 ↔ (fldL.getD k []).length ≤ j) ∧ fldA k j ≤ 8 := by decide
theorem flds_nat {k : Nat} (_ : k < 12) : flds (k : Int) = fldL.getD k [] := by simp [flds]
theorem flds_out {k : Int} (h : ¬ (0 ≤ k ∧ k < 12)) : flds k = [] := by
  unfold flds
  split
  · have : 12 ≤ k.toNat := by omega
    simp [fldL, List.getD, List.getElem?_eq_none (l := [[], [1, 3, 4], [1, 2, 3], [1, 2], [], [1, 3, 7], [1, 6, 7, 4, 5], [6, 7], [1, 4], [], [1, 2], [8]]) (by simpa using this)]
  · rfl
theorem flds_at {k j : Nat} (hk : k < 12) (hj : j < 5) (h0 : fldA k j ≠ 0) : (flds (k : Int)).take (j + 1) = (flds (k : Int)).take j ++ [fldA k j] := by
  have h1 := (fld_fact k hk).2 j hj
  rw [flds_nat hk]
  have hlt : j < (fldL.getD k []).length := by
    have := h1.1
    omega
  rw [List.take_add_one]
  congr 1
  unfold fldA
  generalize fldL.getD k [] = L at *
  rw [List.getElem?_eq_getElem hlt]
  simp [List.getD, hlt]

def namedW (w : World) (k : Int) : World := w.alloc (.cells #[.int .i64 k] 3)
set_option maxHeartbeats 400000 in
theorem named_any (w : World) (k : Int) :
    Calls Tryd.prog 61 #[.int .i64 k] w fun e w' => e = .returned (.func (.func 75) #[] #[.pointer (some ⟨w.heap.size, 0, none⟩)]) ∧ w' = namedW w k := by
  go_enter Tryd.func61, Tryd.ntmps61
  go_wp2
  go_ret
  exact ⟨rfl, rfl⟩
theorem namedW_below (w : World) (k : Int) : Below w.heap.size w (namedW w k) := (Below.refl _ w).alloc (Nat.le_refl _) _
theorem namedW_cell (w : World) (k : Int) : (namedW w k).cell? ⟨w.heap.size, 0, none⟩ = some (.int .i64 k) := by
  rw [namedW, blk_cell (World.alloc_heap_new w _)]; rfl
theorem namedW_size (w : World) (k : Int) : (namedW w k).heap.size = w.heap.size + 1 := by simp [namedW]

set_option maxHeartbeats 2000000 in
theorem named_stops (n : Nat) (hn : 1 ≤ n) {Bk : Nat} {k : Int} {w : World} (hT : Tab w) (hk : w.cell? ⟨Bk, 0, none⟩ = some (.int .i64 k)) :
    SeqStopsK Fence.wide n Tryd.prog 75 #[.pointer (some ⟨Bk, 0, none⟩)] flV (fun _ _ => True)
      (fun xs => xs.map (·.1) = flds k) (fun pre => pre.map (·.1) <+: flds k) 5 w := by
  intro l J Jx W hW hJ hJx hY h0
  have HY' := Lib.hid hY
  have HTW := Lib.hid (hT.below hW)
  have hkW : W.cell? ⟨Bk, 0, none⟩ = some (.int .i64 k) := (hW.cell (p := ⟨Bk, 0, none⟩) (World.block_lt_of_cell? w _ hk)).trans hk
  clear hT hW hJ hJx hY hk
  obtain ⟨P, hP⟩ : ∃ P : Ending → World → Prop, P = fun e W' => (∃ v, e = .returned v) ∧ ((∃ xs : List Fl, xs.map (·.1) = flds k ∧ J xs W') ∨ (∃ pre : List Fl, pre.map (·.1) <+: flds k ∧ Jx pre W')) := ⟨_, rfl⟩
  have HQ1 : Hid (∀ (xs : List Fl) (W' : World), xs.map (·.1) = flds k → J xs W' → P (.returned (.tuple #[])) W') := by
    rw [hP]; exact fun xs W' h1 h2 => ⟨⟨_, rfl⟩, .inl ⟨xs, h1, h2⟩⟩
  have HQ2 : Hid (∀ (xs : List Fl) (W' : World), xs.map (·.1) <+: flds k → Jx xs W' → P (.returned (.tuple #[])) W') := by
    rw [hP]; exact fun xs W' h1 h2 => ⟨⟨_, rfl⟩, .inr ⟨xs, h1, h2⟩⟩
  rw [← hP]
  clear hP
  have H0 := Lib.hid h0
  clear h0
  refine callsIn_of_wp Tryd.func75 rfl trivial ?_ rfl
  simp only [Tryd.ntmps75, List.size_toArray, List.length_cons, List.length_nil, Nat.reduceAdd, Nat.reduceSub, Array.replicate_succ, Array.replicate_zero, List.push_toArray, List.append_toArray, List.nil_append, List.cons_append]
  by_cases hin : 0 ≤ k ∧ k < 12
  · obtain ⟨h1, h2⟩ := hin
    obtain ⟨q, rfl⟩ := Int.eq_ofNat_of_zero_le h1
    have hq : q < 12 := by omega
    obtain ⟨f, hf⟩ : ∃ f : Nat → Value, f = fun j => .int .i64 (fldA q j : Nat) := ⟨_, rfl⟩
    have c0 : W.cell? ⟨1, q * 6 + 1, none⟩ = some (f 0) := by rw [hf]; exact HTW.out.kf q hq 0 (by omega)
    have c1 : W.cell? ⟨1, q * 6 + 1 + 1, none⟩ = some (f 1) := by rw [hf]; exact HTW.out.kf q hq 1 (by omega)
    have c2 : W.cell? ⟨1, q * 6 + 1 + 2, none⟩ = some (f 2) := by rw [hf]; exact HTW.out.kf q hq 2 (by omega)
    have c3 : W.cell? ⟨1, q * 6 + 1 + 3, none⟩ = some (f 3) := by rw [hf]; exact HTW.out.kf q hq 3 (by omega)
    have c4 : W.cell? ⟨1, q * 6 + 1 + 4, none⟩ = some (f 4) := by rw [hf]; exact HTW.out.kf q hq 4 (by omega)
    have HFI : Hid (∀ j : Nat, j < 5 → ∀ w, (Instr.index 150 (.agg #[f 0, f 1, f 2, f 3, f 4]) (.int .i64 (j : Int))).run Tryd.prog w = .ok (f j) w) := fun j hj w => fld_index f hj w
    have HKF : Hid (∀ j : Nat, f j = .int .i64 (fldA q j : Nat)) := by rw [hf]; exact fun _ => rfl
    clear hf
    gi_wp2
    gi_loopw [15] (fun i wr => ∃ (j : Nat) (pre : List Fl), j ≤ 5 ∧ i = .int .i64 (j : Int) ∧ pre.map (·.1) = (flds (q : Int)).take j ∧ pre.length = j ∧ J pre wr) (fun i _ => 5 - (intOf i).toNat)
    case atStart => exact ⟨0, [], by omega, rfl, by simp, rfl, H0.out⟩
    case round =>
      obtain ⟨j, pre, hj, rfl, hpre, hlen, hJ⟩ := hrel
      rename World => V
      have HP := Lib.hid hpre
      have HJ := Lib.hid hJ
      have HL := Lib.hid hlen
      clear hpre hJ hlen c0 c1 c2 c3 c4 hkW
      have HQ := Lib.hid hq
      have hf0 := (fld_fact q hq).1
      have HFA := Lib.hid (fld_fact q hq).2
      have HF0 := Lib.hid hf0
      clear hf0
      by_cases h5 : j < 5
      · have hix := HFI.out j h5
        rw [HKF.out j] at hix
        have HFF := Lib.hid (HFA.out j h5)
        have HAT : Hid (fldA q j ≠ 0 → (flds (q : Int)).take (j + 1) = (flds (q : Int)).take j ++ [fldA q j]) := fun h => flds_at HQ.out h5 h
        generalize fldA q j = x at *
        by_cases h0 : x = 0
        · subst h0
          have HF : Hid (P (.returned (.tuple #[])) V) := HQ1.out pre V (by
            rw [HP.out, List.take_of_length_le]
            rw [flds_nat HQ.out]
            exact HFF.out.1.1 rfl) HJ.out
          gi_wp2_with fail
          refine ⟨fun _ h => (by cases h), ?_⟩
          gi_wp2
          exact bodyPost_ret (results_none rfl _ _ _) rfl HF.out
        · have d1 : ((x : Int) == 0) = false := by
            have : ¬ (x : Int) = 0 := by omega
            simpa using this
          obtain ⟨z, hz⟩ : ∃ z : Fl, z.1 = x := ⟨⟨x, by omega, HFF.out.2⟩, rfl⟩
          have hY := HY'.out pre z V HJ.out (by have := HL.out; omega)
          have HS : Hid (((pre ++ [z]).map (·.1)) = (flds (q : Int)).take (j + 1)) := by
            rw [Hid, HAT.out h0, List.map_append, HP.out, List.map_cons, hz]; rfl
          have HLL : Hid ((pre ++ [z]).length = j + 1) := by rw [Hid, List.length_append, HL.out]; rfl
          obtain ⟨fn, tmps, assign, body, hrun, hR⟩ := hY
          dsimp only [flV] at hrun
          rw [hz] at hrun
          have HRR := Lib.hid hR
          clear hR HFI hz
          generalize pre ++ [z] = pre2 at *
          gi_wp2
          refine HRR.out.mono ?_
          rintro e W' (⟨rfl, hJ', _⟩ | ⟨rfl, hJx⟩)
          · have HJ2 := Lib.hid hJ'
            clear hJ' hrun HRR
            gi_wp2
            go_roundw
            case rel => exact ⟨j + 1, pre2, by omega, by go_num, HS.out, HLL.out, HJ2.out⟩
            case measure => simp [intOf]; omega
          · have HF : Hid (P (.returned (.tuple #[])) W') := HQ2.out pre2 W' (by rw [HS.out]; exact List.take_prefix _ _) hJx
            clear hJx hrun HRR
            gi_wp2
            exact bodyPost_ret (results_none rfl _ _ _) rfl HF.out
      · obtain rfl : j = 5 := by omega
        have HF : Hid (P (.returned (.tuple #[])) V) := HQ1.out pre V (by
          rw [HP.out, List.take_of_length_le]
          rw [flds_nat HQ.out]
          exact HF0.out) HJ.out
        clear HFI HKF
        gi_wp2
        exact bodyPost_end (results_none rfl _ _ _) rfl HF.out
  · have HK := Lib.hid hin
    have hfl := flds_out hin
    have HF : Hid (P (.returned (.tuple #[])) W) := HQ1.out [] W (by rw [hfl]; rfl) H0.out
    clear hfl
    by_cases h1 : 0 ≤ k
    · have h2 : ¬ k < 12 := fun h => hin ⟨h1, h⟩
      clear hin
      gi_wp2
      exact bodyPost_ret (results_none rfl _ _ _) rfl HF.out
    · clear hin
      gi_wp2
      exact bodyPost_ret (results_none rfl _ _ _) rfl HF.out
end Go.Proofs.YtfgajjfcjlejmaaDoor
