/-
  The walk of the laws' own example.
-/
import Derived.Test.YtlkojoinbogkmaaDoorM1
namespace Go.Proofs.YtlkojoinbogkmaaDoor
set_option maxRecDepth 100000
set_option linter.unusedSimpArgs false
open Go.RowKit

/-- The example's map. -/
def exL : List (List UInt8) := [[46, 46, 62], [35, 46, 118]]
def exM : List UInt8 := [46, 46, 62, 35, 46, 118]
theorem ex_verdict (s : ByteArray) (hs : s.data.toList = [46, 46, 62, 10, 35, 46, 118, 10]) : Pure.verdict s.data.toList = .good exL := by rw [hs]; rfl
theorem ex_good : Pure.Good exL := (Pure.good_of (s := [46, 46, 62, 10, 35, 46, 118, 10]) rfl).1
theorem ex_eds : eds 2 3 exM exM.length = 6 := by decide +kernel
theorem ex_frees : frees exM = [0, 1, 2, 4, 5] := by decide +kernel
theorem ex_next1 : nextZ 2 3 exM 1 = [0, 2, 4] := by decide +kernel
theorem ex_next2 : nextZ 2 3 exM 2 = [] := by decide +kernel
theorem ex_back4 : backZ 2 3 exM 4 = [1] := by decide +kernel

theorem same5 {w : World} {u : Value} (h : Lst w u [0, 1, 2, 4, 5]) : Calls Tryd.prog 11 #[u, .slice (some ⟨w.heap.size, 0, none⟩) 5 5] (w.alloc (.cells #[.int .i64 0, .int .i64 1, .int .i64 2, .int .i64 4, .int .i64 5] 3)) fun e w' => e = .returned (.bool true) ∧ Below w.heap.size w w' :=
  same_new h (by decide) rfl rfl
theorem same3 {w : World} {u : Value} (h : Lst w u [0, 2, 4]) : Calls Tryd.prog 11 #[u, .slice (some ⟨w.heap.size, 0, none⟩) 3 3] (w.alloc (.cells #[.int .i64 0, .int .i64 2, .int .i64 4] 3)) fun e w' => e = .returned (.bool true) ∧ Below w.heap.size w w' :=
  same_new h (by decide) rfl rfl
theorem same1 {w : World} {u : Value} (h : Lst w u [1]) : Calls Tryd.prog 11 #[u, .slice (some ⟨w.heap.size, 0, none⟩) 1 1] (w.alloc (.cells #[.int .i64 1] 3)) fun e w' => e = .returned (.bool true) ∧ Below w.heap.size w w' :=
  same_new h (by decide) rfl rfl

set_option maxHeartbeats 2000000 in
theorem alive_any (w : World) (hw : Ways w) :
    Calls Tryd.prog 20 #[] w fun e w' => e = .returned (.bool true) ∧ Below w.heap.size w w' := by
  have HP : Hid (∀ (s : ByteArray), s.data.toList = [46, 46, 62, 10, 35, 46, 118, 10] → Calls Tryd.prog 7 #[.string s] w fun e w' => ∃ b g cap, e = .returned (.tuple #[.pointer (some ⟨b, 0, none⟩), .int .i64 0, .int .i64 0, .int .i64 0]) ∧ M1 w b g cap 2 3 exM w') := by
    intro s hs
    have hsz : s.size = 8 := by
      have : s.data.toList.length = 8 := by rw [hs]; rfl
      simpa using this
    refine (parse_any s w (by omega)).mono ?_
    rintro e w' ⟨h1, h2⟩
    rw [ex_verdict s hs] at h2
    obtain ⟨g, cap, h3, h4⟩ := h2
    exact ⟨_, g, cap, h3, m1_start hw ex_good h4 h1 (Nat.le_refl _)⟩
  clear hw
  go_enter Tryd.func20, Tryd.ntmps20
  go_wp2_with (first
    | (go_at_call 7; refine (HP.out _ (by rfl)).mono ?_; rintro e w1 ⟨bm, gm, cm, rfl, hm⟩; have H1 : Hid (M1 w bm gm cm 2 3 exM w1) := hm; clear hm)
    | (go_at_call 25; refine (rows_any _ _ _ H1.out.em.c0).mono ?_; rintro e w' ⟨rfl, rfl⟩)
    | (go_at_call 26; refine (cols_any _ _ _ H1.out.em.c1).mono ?_; rintro e w' ⟨rfl, rfl⟩)
    | (go_at_call 19; (with_reducible refine (m1_edges H1.out).mono ?_); rw [ex_eds]; rintro e w2 ⟨rfl, hm⟩; have H2 : Hid (M1 w bm gm cm 2 3 exM w2) := hm; clear hm)
    | (go_at_call 27; (with_reducible refine (m1_all H2.out (by decide)).mono ?_); rw [ex_frees]; rintro e w3 ⟨a1, c1, rfl, hm⟩; have H3 : Hid (M1 w bm gm cm 2 3 exM w3 ∧ Lst w3 (.slice a1 5 c1) [0, 1, 2, 4, 5]) := hm; clear hm)
    | (go_at_call 11; (with_reducible refine (same5 H3.out.2).mono ?_); rintro e w4 ⟨rfl, hb⟩; have H4 : Hid (M1 w bm gm cm 2 3 exM w4) := H3.out.1.below hb; clear hb H3)
    | (go_at_call 10; (with_reducible refine (m1_next 1 H4.out).mono ?_); rw [ex_next1]; rintro e w5 ⟨a2, c2, rfl, hm⟩; have H5 : Hid (M1 w bm gm cm 2 3 exM w5 ∧ Lst w5 (.slice a2 3 c2) [0, 2, 4]) := hm; clear hm)
    | (go_at_call 11; (with_reducible refine (same3 H5.out.2).mono ?_); rintro e w6 ⟨rfl, hb⟩; have H6 : Hid (M1 w bm gm cm 2 3 exM w6) := H5.out.1.below hb; clear hb H5)
    | (go_at_call 10; (with_reducible refine (m1_next 2 H6.out).mono ?_); rw [ex_next2]; rintro e w7 ⟨a3, c3, rfl, hm⟩; have H7 : Hid (M1 w bm gm cm 2 3 exM w7) := hm.1; clear hm)
    | (go_at_call 13; (with_reducible refine (m1_back 4 H7.out).mono ?_); rw [ex_back4]; rintro e w8 ⟨a4, c4, rfl, hm⟩; have H8 : Hid (M1 w bm gm cm 2 3 exM w8 ∧ Lst w8 (.slice a4 1 c4) [1]) := hm; clear hm)
    | (go_at_call 11; (with_reducible refine (same1 H8.out.2).mono ?_); rintro e w9 ⟨rfl, hb⟩; have H9 : Hid (M1 w bm gm cm 2 3 exM w9) := H8.out.1.below hb; clear hb H8))
  go_ret
  exact ⟨rfl, H9.out.bl⟩
end Go.Proofs.YtlkojoinbogkmaaDoor
