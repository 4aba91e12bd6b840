/-
  The walk of the document's own Parse.
-/
import Derived.Test.YtkfijjjnidiejaaDoorW2
import Derived.Deep.QuietTactic
import Derived.BigQuiet
namespace Go.Proofs.YtkfijjjnidiejaaDoor
set_option maxRecDepth 100000
open Go.RowKit

abbrev lst (q : ByteArray) : List UInt8 := q.data.toList
def lsts (Q : List ByteArray) : List (List UInt8) := Q.map (fun q => q.data.toList)

def freeSo (Q : List ByteArray) (q : ByteArray) : Bool := ((lsts Q).flatten ++ lst q).any (· != 35)

theorem Tryd.infoStr : (Tryd.prog.info? 9).map (fun i => (i.zero, i.size, i.bytes)) = some (some (.string ⟨#[]⟩), 1, 16) := by kernel_rfl

theorem ref_head {w : World} {base : Nat} {a : Option Addr} {cap : Nat} {Q : List ByteArray} {e : TypeId} (hown : w.ownsRow base e 1 (.slice a Q.length cap) Q.length (Q.map Value.string)) (h : 1 ≤ Q.length) :
    ∃ g d, a = some ⟨g, 0, none⟩ ∧ w.cell? ⟨g, 0, none⟩ = some (.string d) ∧ d.size = Pure.wid (lsts Q) := by
  cases Q with
  | nil => simp at h
  | cons d Q =>
    rcases hown.2 with ⟨_, h0⟩ | ⟨g, cap', _, h0, _⟩
    · simp at h0
    · obtain ⟨rfl, rfl⟩ : a = some ⟨g, 0, none⟩ ∧ cap = cap' := by simpa using h0
      refine ⟨g, d, rfl, ?_, by simp [Pure.wid, lsts]⟩
      have := hown.cells (g := g) rfl 0 (.string d) rfl
      exact this

theorem slice_of {w : World} {base n : Nat} {e : TypeId} {v : Value} {xs : List Value} (h : w.ownsRow base e 1 v n xs) (hn : 1 ≤ n) : ∃ g cap, v = .slice (some ⟨g, 0, none⟩) n cap := by
  rcases h.2 with ⟨_, h0⟩ | ⟨g, cap, _, h0, _⟩
  · omega
  · exact ⟨g, cap, h0⟩

theorem snoc_at (q s : ByteArray) (k : Nat) (h : k < s.size) : (q ++ s.extract k (k + 1)).data.toList = q.data.toList ++ [s[k]] := by
  rw [ByteArray.data_append, Array.toList_append, ByteArray.data_extract, Array.toList_extract]
  rw [List.extract_eq_take_drop, drop_cons s k h]
  simp

theorem freeSo_row (Q : List ByteArray) (q : ByteArray) : freeSo (Q ++ [q]) ⟨#[]⟩ = freeSo Q q := by simp [freeSo, lsts]

theorem all_any35 (l : List UInt8) : (!l.any (· != 35)) = l.all (· == 35) := by
  induction l with
  | nil => rfl
  | cons a l ih => rw [List.any_cons, List.all_cons, ← ih, Bool.not_or]; cases h : (a == 35) <;> simp [bne, h]

theorem wall_free (Q : List ByteArray) : (!freeSo Q ByteArray.empty) = Pure.wall (lsts Q) := by
  unfold freeSo Pure.wall
  rw [all_any35]
  show List.all ((lsts Q).flatten ++ []) _ = _
  rw [List.append_nil]

end Go.Proofs.YtkfijjjnidiejaaDoor
