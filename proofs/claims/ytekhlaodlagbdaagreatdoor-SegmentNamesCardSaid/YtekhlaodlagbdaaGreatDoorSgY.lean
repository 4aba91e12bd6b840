/-
  segment.Plan.doors: an iterator over the doors of a segment.
-/
import Derived.Test.YtekhlaodlagbdaaGreatDoorSgV
import Derived.Test.YtekhlaodlagbdaaGreatDoorSgR
import Derived.Sort.QuietIn
namespace Go.Proofs.YtekhlaodlagbdaaGreatDoor
set_option maxRecDepth 100000
set_option linter.unusedSimpArgs false
open Go Go.RowKit

/-- A cell's doors out of segment s, among the first k cells that it goes to. -/
def dorA (R C : Nat) (ms : List UInt8) (st : Sg.Pl) (s a k : Nat) : List (Nat × Nat) := (((outs R C ms a).take k).filter (fun b => st.of.getD b 0 != (s : Int))).map fun b => (a, b)
/-- The doors of the first k cells. -/
def dorK (R C : Nat) (ms : List UInt8) (st : Sg.Pl) (s : Nat) (l : List Nat) (k : Nat) : List (Nat × Nat) := (l.take k).flatMap fun a => dorA R C ms st s a 4
def dorF (R C : Nat) (ms : List UInt8) (st : Sg.Pl) (s : Nat) : List (Nat × Nat) := dorK R C ms st s (st.cells.getD s []) (st.cells.getD s []).length
section
variable {R C : Nat} {ms : List UInt8} {st : Sg.Pl} {s : Nat}
theorem dorA_zero (a : Nat) : dorA R C ms st s a 0 = [] := rfl
theorem dorA_len (a k : Nat) : (dorA R C ms st s a k).length ≤ 4 := by
  unfold dorA
  rw [List.length_map]
  have h1 := List.length_filter_le (fun b => st.of.getD b 0 != (s : Int)) ((outs R C ms a).take k)
  have h2 := outs_len R C ms a
  rw [List.length_take] at h1
  omega
theorem dorA_all (a : Nat) {k : Nat} (h : k = (outs R C ms a).length) : dorA R C ms st s a k = dorA R C ms st s a 4 := by
  unfold dorA
  rw [List.take_of_length_le (by omega), List.take_of_length_le (outs_len R C ms a)]
theorem dorA_snoc (a : Nat) {k : Nat} (h : k < (outs R C ms a).length) : dorA R C ms st s a (k + 1) = dorA R C ms st s a k ++ if (st.of.getD ((outs R C ms a).getD k 0) 0 != (s : Int)) = true then [(a, (outs R C ms a).getD k 0)] else [] := by
  unfold dorA
  rw [List.take_succ_eq_append_getElem h, List.filter_append, List.map_append]
  have e : (outs R C ms a).getD k 0 = (outs R C ms a)[k] := by simp [List.getD, h]
  rw [e]
  by_cases hp : (st.of.getD (outs R C ms a)[k] 0 != (s : Int)) = true
  · rw [if_pos hp]
    simp only [List.filter_cons, hp, if_true, List.filter_nil, List.map_cons, List.map_nil]
  · rw [if_neg hp]
    simp only [List.filter_cons, hp, if_false, List.filter_nil, List.map_nil]
    rfl
theorem dorK_snoc {l : List Nat} {k : Nat} (h : k < l.length) : dorK R C ms st s l (k + 1) = dorK R C ms st s l k ++ dorA R C ms st s (l.getD k 0) 4 := by
  unfold dorK
  rw [List.take_succ_eq_append_getElem h, List.flatMap_append]
  have e : l.getD k 0 = l[k] := by simp [List.getD, h]
  rw [e]
  simp
theorem dorK_len (l : List Nat) : ∀ k, (dorK R C ms st s l k).length ≤ 4 * k
  | 0 => by simp [dorK]
  | k + 1 => by
    rcases Nat.lt_or_ge k l.length with h | h
    · rw [dorK_snoc h, List.length_append]
      have h1 := dorK_len l k
      have h2 := dorA_len (R := R) (C := C) (ms := ms) (st := st) (s := s) (l.getD k 0) 4
      omega
    · have h1 := dorK_len l k
      have e : dorK R C ms st s l (k + 1) = dorK R C ms st s l k := by
        unfold dorK
        rw [List.take_of_length_le h, List.take_of_length_le (by omega)]
      rw [e]; omega
end
end Go.Proofs.YtekhlaodlagbdaaGreatDoor
