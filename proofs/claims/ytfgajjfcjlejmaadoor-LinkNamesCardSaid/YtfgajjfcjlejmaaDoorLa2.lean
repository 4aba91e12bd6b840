/-
  Alarms: what is shaken, set, asked again, and rings.
-/
import Derived.Test.YtfgajjfcjlejmaaDoorLa1
namespace Go.Proofs.YtfgajjfcjlejmaaDoor
set_option maxRecDepth 100000
set_option linter.unusedSimpArgs false
open Go Go.RowKit

def shk (b c : Nat) (t : Int) (q : Nat) : Nat := dly b c t + q % (dly b c t / 2 + 1)
@[reducible] def alV (on : Bool) (a : Nat) (t : Int) : Value := .agg #[.bool on, .int .u64 (a : Nat), .int .i64 t]

theorem start_any (w : World) {b c : Nat} {n : Nat} (h : okR b c = true) (hn : n ≤ topT) :
    Calls Tryd.prog 36 #[ruV b c, .int .u64 (n : Nat)] w fun e w' => e = .returned (alV true (beh n b) 0) ∧ Below w.heap.size w w' := by
  have HB := Lib.hid h
  have hrb : 1 ≤ b ∧ b ≤ c ∧ c ≤ 4294967296 := by simpa [okR] using h
  have HN := Lib.hid hn
  have HBT : Hid (b ≤ topT) := by show _ ≤ _; unfold topT; omega
  clear h hrb hn
  go_enter Tryd.func36, Tryd.ntmps36
  go_wp2_with (first
    | (refine (check_ok _ HB.out).mono ?_; rintro e w2 ⟨rfl, rfl⟩)
    | (refine (behind_any _ HN.out HBT.out).mono ?_; rintro e w2 ⟨rfl, rfl⟩))
  refine bodyPost_ret (v := alV true (beh n b) 0) (by simp [results, Tryd.results36, go_sem]) rfl ⟨rfl, ?_⟩
  exact (((Below.refl _ w).alloc (Nat.le_refl _) _).alloc (by simp) _).alloc (by simp only [World.size_alloc]; omega) _
theorem start_no (w : World) {b c : Nat} {n : Nat} (h : okR b c = false) :
    Calls Tryd.prog 36 #[ruV b c, .int .u64 (n : Nat)] w fun e w' => e = .returned (alV false 0 0) ∧ Below w.heap.size w w' := by
  have HB := Lib.hid h
  clear h
  go_enter Tryd.func36, Tryd.ntmps36
  go_wp2_with (refine (check_bad _ HB.out).mono ?_; rintro e w2 ⟨rfl, rfl⟩)
  refine bodyPost_ret (v := alV false 0 0) (by simp [results, Tryd.results36, go_sem]) rfl ⟨rfl, ?_⟩
  exact (((Below.refl _ w).alloc (Nat.le_refl _) _).alloc (by simp) _).alloc (by simp only [World.size_alloc]; omega) _

theorem bx_kept {w w3 : World} {A B C : Obj} {x y z : Value} {t : TypeId} (h : Below ((((w.alloc A).alloc B).alloc (.cells #[x, y, z] t)).alloc C).heap.size ((((w.alloc A).alloc B).alloc (.cells #[x, y, z] t)).alloc C) w3) :
    w3.heap[w.heap.size + 1 + 1]? = some (.cells #[x, y, z] t (0, 0)) := by
  refine (h.block _ (by simp only [World.size_alloc]; omega)).trans ?_
  rw [Below.heap_alloc _ _ _ (by simp only [World.size_alloc]; omega)]
  have := World.alloc_heap_new ((w.alloc A).alloc B) (.cells #[x, y, z] t)
  simpa only [World.size_alloc] using this
theorem atwo {w : World} {g : Nat} {a b : Value} {t : TypeId} (h : w.heap[g]? = some (.cells #[a, b] t (0, 0))) : w.cell? ⟨g, 0, none⟩ = some a ∧ w.cell? ⟨g, 1, none⟩ = some b :=
  ⟨by rw [blk_cell h]; rfl, by rw [blk_cell h]; rfl⟩
theorem athree {w : World} {g : Nat} {a b c : Value} {t : TypeId} (h : w.heap[g]? = some (.cells #[a, b, c] t (0, 0))) :
    (w.cell? ⟨g, 0, none⟩ = some a ∧ w.cell? ⟨g, 1, none⟩ = some b ∧ w.cell? ⟨g, 2, none⟩ = some c) ∧ w.frozen? ⟨g, 0, none⟩ = false ∧ w.frozen? ⟨g, 1, none⟩ = false ∧ w.frozen? ⟨g, 2, none⟩ = false :=
  ⟨⟨by rw [blk_cell h]; rfl, by rw [blk_cell h]; rfl, by rw [blk_cell h]; rfl⟩, blk_free h 0, blk_free h 1, blk_free h 2⟩

/-- An alarm that rang in vain. -/
def agT (t : Int) : Int := min t 999 + 1
theorem again_any (w : World) {b c : Nat} {n a : Nat} {t : Int} (h : okR b c = true) (hn : n ≤ topT) (ht : -9223372036854775808 ≤ t) :
    Calls Tryd.prog 54 #[ruV b c, alV true a t, .int .u64 (n : Nat)] w fun e w' => e = .returned (alV true (beh n (dly b c (agT t))) (agT t)) ∧ Below w.heap.size w w' := by
  have HB := Lib.hid h
  have hrb : 1 ≤ b ∧ b ≤ c ∧ c ≤ 4294967296 := by simpa [okR] using h
  have HN := Lib.hid hn
  have HBT : Hid (dly b c (agT t) ≤ topT) := by
    have := dly_le b c (agT t)
    show _ ≤ _; unfold topT; omega
  have hw : IntKind.i64.wrap ((if (999 : Int) < t then 999 else t) + 1) = agT t := by
    rw [IntWalk.i64_in _ (by split <;> omega)]
    unfold agT
    split <;> omega
  have HW := Lib.hid hw
  generalize agT t = s at *
  clear h hrb hn ht
  go_enter Tryd.func54, Tryd.ntmps54
  go_wp2_with (first
    | (refine (check_ok _ HB.out).mono ?_; rintro e w2 ⟨rfl, rfl⟩)
    | (refine (delay_any _ _ HB.out).mono ?_; rintro e w3 ⟨rfl, hb3⟩
       have hx := bx_kept hb3
       obtain ⟨⟨c0, c1, c2⟩, z0, z1, z2⟩ := athree hx
       have HX := Lib.hid hx
       have HB3 := Lib.hid hb3
       clear hx hb3)
    | (refine (behind_any _ HN.out HBT.out).mono ?_; rintro e w2 ⟨rfl, rfl⟩))
  all_goals
    have h3 := blk_set (blk_set (blk_set HX.out 0 (.bool true)) 1 (.int .u64 (beh n (dly b c s) : Nat))) 2 (.int .i64 s)
    obtain ⟨⟨q0, q1, q2⟩, _⟩ := athree (show _ = some (Obj.cells #[.bool true, .int .u64 (beh n (dly b c s) : Nat), .int .i64 s] _ (0, 0)) from h3)
    refine bodyPost_ret (v := alV true (beh n (dly b c s)) s) (by simp only [results, Tryd.results54]; simp [go_sem, q0, q1, q2]) rfl ⟨rfl, ?_⟩
    have hb : Below w.heap.size w w2 := (((((Below.refl _ w).alloc (Nat.le_refl _) _).alloc (by simp) _).alloc (by simp only [World.size_alloc]; omega) _).alloc (by simp only [World.size_alloc]; omega) _).trans (HB3.out.mono (by simp only [World.size_alloc]; omega))
    exact ((hb.setCell (p := ⟨w.heap.size + 1 + 1, 0, none⟩) (by simp; omega) _).setCell (p := ⟨w.heap.size + 1 + 1, 1, none⟩) (by simp; omega) _).setCell (p := ⟨w.heap.size + 1 + 1, 2, none⟩) (by simp; omega) _
theorem again_off (w : World) {b c : Nat} {n a : Nat} {t : Int} (h : okR b c = true) :
    Calls Tryd.prog 54 #[ruV b c, alV false a t, .int .u64 (n : Nat)] w fun e w' => e = .returned (alV false 0 0) ∧ Below w.heap.size w w' := by
  have HB := Lib.hid h
  clear h
  go_enter Tryd.func54, Tryd.ntmps54
  go_wp2_with (refine (check_ok _ HB.out).mono ?_; rintro e w2 ⟨rfl, rfl⟩)
  refine bodyPost_ret (v := alV false 0 0) (by simp [results, Tryd.results54, go_sem]) rfl ⟨rfl, ?_⟩
  exact ((((Below.refl _ w).alloc (Nat.le_refl _) _).alloc (by simp) _).alloc (by simp only [World.size_alloc]; omega) _).alloc (by simp only [World.size_alloc]; omega) _

theorem rings_any (w : World) {b c : Nat} {n a : Nat} {t : Int} {on : Bool} (h : okR b c = true) :
    Calls Tryd.prog 53 #[ruV b c, alV on a t, .int .u64 (n : Nat)] w fun e w' => e = .returned (.bool (on && decide (a ≤ n))) ∧ Below w.heap.size w w' := by
  have HB := Lib.hid h
  clear h
  cases on
  · go_enter Tryd.func53, Tryd.ntmps53
    go_wp2_with (refine (check_ok _ HB.out).mono ?_; rintro e w2 ⟨rfl, rfl⟩)
    go_ret
    exact ⟨rfl, (((Below.refl _ w).alloc (Nat.le_refl _) _).alloc (by simp) _).alloc (by simp only [World.size_alloc]; omega) _⟩
  · go_enter Tryd.func53, Tryd.ntmps53
    go_wp2_with (refine (check_ok _ HB.out).mono ?_; rintro e w2 ⟨rfl, rfl⟩)
    go_ret
    exact ⟨rfl, (((Below.refl _ w).alloc (Nat.le_refl _) _).alloc (by simp) _).alloc (by simp only [World.size_alloc]; omega) _⟩

end Go.Proofs.YtfgajjfcjlejmaaDoor
