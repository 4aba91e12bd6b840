/-
  Packets in memory; the tables; the small functions.
-/
import Derived.Test.YtfgajjfcjlejmaaDoorWr0
import Derived.Test.YtfgajjfcjlejmaaDoorKp
import Derived.Test.YtfgajjfcjlejmaaDoorHeap
import Derived.WalkSpells
import Derived.WalkLawsBesides
import Derived.Deep.AppendLies
import Derived.RegionTactic
import Derived.ChangeAlike
import Derived.BigRegion
import Derived.Outline
import Derived.Lib.Hide
namespace Go.Proofs.YtfgajjfcjlejmaaDoor
set_option maxRecDepth 100000
set_option linter.unusedSimpArgs false
open Go Go.RowKit Wr

def wordL : List (List UInt8) := [[], [114, 101, 113, 117, 101, 115, 116], [103, 114, 97, 110, 116], [114, 101, 108, 101, 97, 115, 101], [97, 99, 107], [100, 101, 110, 121], [112, 114, 111, 98, 101], [97, 98, 111, 114, 116], [105, 110, 104, 101, 114, 105, 116], [104, 101, 108, 108, 111], [114, 101, 99, 97, 108, 108], [115, 116, 97, 116, 117, 115]]
def word (k : Nat) : Value := .string ⟨(wordL.getD k []).toArray⟩
def fldA (k j : Nat) : Nat := (fldL.getD k []).getD j 0
/-- The two tables. -/
structure Tab (w : World) : Prop where
  rw_ : ∀ f, f < 9 → w.cell? ⟨0, f * 3, none⟩ = some (.int .i64 (wid f : Nat))
  rl : ∀ f, f < 9 → w.cell? ⟨0, f * 3 + 1, none⟩ = some (.int .i64 (lo f))
  rh : ∀ f, f < 9 → w.cell? ⟨0, f * 3 + 2, none⟩ = some (.int .i64 (hi f))
  kn : ∀ k, k < 12 → w.cell? ⟨1, k * 6, none⟩ = some (word k)
  kf : ∀ k, k < 12 → ∀ j, j < 5 → w.cell? ⟨1, k * 6 + 1 + j, none⟩ = some (.int .i64 (fldA k j : Nat))
theorem Tab.lt {w : World} (h : Tab w) : 0 < w.heap.size ∧ 1 < w.heap.size := ⟨World.block_lt_of_cell? w _ (h.rw_ 0 (by omega)), World.block_lt_of_cell? w _ (h.kn 0 (by omega))⟩
theorem Tab.kept {w w' : World} {X : Nat → Prop} (h : Tab w) (hk : Kept X w w') (h0 : ¬ X 0) (h1 : ¬ X 1) : Tab w' :=
  ⟨fun f hf => hk.cell (h.rw_ f hf) h0, fun f hf => hk.cell (h.rl f hf) h0, fun f hf => hk.cell (h.rh f hf) h0, fun f hf => hk.cell (h.kn f hf) h1, fun f hf j hj => hk.cell (h.kf f hf j hj) h1⟩
theorem Tab.below {w w' : World} (h : Tab w) (hb : Below w.heap.size w w') : Tab w' := h.kept (Kept.of_below (X := fun _ => False) hb (Nat.le_refl _)) id id

def wordI (k : Int) : Value := if 0 ≤ k ∧ k < 12 then word k.toNat else .string ⟨#[]⟩

set_option maxHeartbeats 400000 in
theorem isRobot_any (w : World) (n : Int) :
    Calls Tryd.prog 69 #[.int .i64 n] w fun e w' => e = .returned (.bool (isR n)) ∧ w' = w := by
  obtain ⟨P, hP⟩ : ∃ P : Ending → World → Prop, P = fun e w' => e = .returned (.bool (isR n)) ∧ w' = w := ⟨_, rfl⟩
  have HQ : Hid (P (.returned (.bool (isR n))) w) := by rw [hP]; exact ⟨rfl, rfl⟩
  rw [← hP]
  clear hP
  unfold isR at HQ
  by_cases h0 : 0 ≤ n
  · by_cases h1 : n < 64
    · rw [decide_eq_true ⟨h0, h1⟩] at HQ
      go_enter Tryd.func69, Tryd.ntmps69
      go_wp2
      first | exact HQ.out | (go_ret; exact HQ.out)
    · rw [decide_eq_false (fun h => h1 h.2)] at HQ
      go_enter Tryd.func69, Tryd.ntmps69
      go_wp2
      first | exact HQ.out | (go_ret; exact HQ.out)
  · rw [decide_eq_false (fun h => h0 h.1)] at HQ
    go_enter Tryd.func69, Tryd.ntmps69
    go_wp2
    first | exact HQ.out | (go_ret; exact HQ.out)

set_option maxHeartbeats 400000 in
theorem name_any {w : World} (hT : Tab w) (k : Int) :
    Calls Tryd.prog 62 #[.int .i64 k] w fun e w' => e = .returned (wordI k) ∧ w' = w := by
  obtain ⟨P, hP⟩ : ∃ P : Ending → World → Prop, P = fun e w' => e = .returned (wordI k) ∧ w' = w := ⟨_, rfl⟩
  have HQ : Hid (P (.returned (wordI k)) w) := by rw [hP]; exact ⟨rfl, rfl⟩
  rw [← hP]
  clear hP
  unfold wordI at HQ
  by_cases h0 : 0 ≤ k
  · by_cases h1 : k < 12
    · rw [if_pos ⟨h0, h1⟩] at HQ
      obtain ⟨n, rfl⟩ := Int.eq_ofNat_of_zero_le h0
      have c1 := hT.kn n (by omega)
      have HT := Lib.hid hT
      clear hT
      simp only [Int.toNat_natCast] at HQ
      have hw : Hid (∃ s, word n = .string s) := ⟨_, rfl⟩
      obtain ⟨s, hs⟩ := hw.out
      rw [hs] at c1 HQ
      clear hw hs
      go_enter Tryd.func62, Tryd.ntmps62
      go_wp2
      first | exact HQ.out | (go_ret; exact HQ.out)
    · rw [if_neg (fun h => h1 h.2)] at HQ
      clear hT
      go_enter Tryd.func62, Tryd.ntmps62
      go_wp2
      first | exact HQ.out | (go_ret; exact HQ.out)
  · rw [if_neg (fun h => h0 h.1)] at HQ
    clear hT
    go_enter Tryd.func62, Tryd.ntmps62
    go_wp2
    first | exact HQ.out | (go_ret; exact HQ.out)
end Go.Proofs.YtfgajjfcjlejmaaDoor
