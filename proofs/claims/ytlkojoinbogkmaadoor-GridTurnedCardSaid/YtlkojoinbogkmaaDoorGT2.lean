/-
  The walk of the law GridTurned, at every text.
-/
import Derived.Test.YtlkojoinbogkmaaDoorGT
namespace Go.Proofs.YtlkojoinbogkmaaDoor
set_option maxRecDepth 100000
set_option linter.unusedSimpArgs false
open Go.RowKit

set_option maxHeartbeats 1000000 in
theorem turned_long (s : ByteArray) (w : World) (hw : Ways w) (h : 600 < s.size) :
    Calls Tryd.prog 5 #[.string s] w fun e w' => e = .returned (.bool true) ∧ Below w.heap.size w w' := by
  have HA : Hid (Calls Tryd.prog 20 #[] w fun e w' => e = .returned (.bool true) ∧ Below w.heap.size w w') := alive_any w hw
  clear hw
  go_enter Tryd.func5, Tryd.ntmps5
  go_wp2_with (go_at_call 20; (with_reducible refine HA.out.mono ?_); rintro e w1 ⟨rfl, hb⟩)
  go_ret
  exact ⟨rfl, hb⟩

set_option maxHeartbeats 1000000 in
theorem turned_bad (s : ByteArray) (w : World) (hw : Ways w) (h : s.size ≤ 600) {l c : Nat} (hv : Pure.verdict s.data.toList = .bad l c) :
    Calls Tryd.prog 5 #[.string s] w fun e w' => e = .returned (.bool true) ∧ Below w.heap.size w w' := by
  have HA : Hid (Calls Tryd.prog 20 #[] w fun e w' => e = .returned (.bool true) ∧ Below w.heap.size w w') := alive_any w hw
  have HP : Hid (∀ w, Calls Tryd.prog 7 #[.string s] w fun e w' => e = .returned (.tuple #[.pointer none, .int .i64 (l : Int), .int .i64 (c : Int), .int .i64 10]) ∧ Below w.heap.size w w') := by
    intro w
    refine (parse_any s w (by omega)).mono ?_
    rintro e w' ⟨h1, h2⟩
    rw [hv] at h2
    exact ⟨h2, h1⟩
  clear hv hw
  go_enter Tryd.func5, Tryd.ntmps5
  go_wp2_with (first
    | (go_at_call 20; (with_reducible refine HA.out.mono ?_); rintro e w1 ⟨rfl, hb⟩)
    | (go_at_call 7; (with_reducible refine (HP.out _).mono ?_); rintro e w2 ⟨rfl, hb2⟩))
  go_ret
  exact ⟨rfl, hb.trans (hb2.mono hb.size)⟩

theorem turned_all (s : ByteArray) (w : World) (hw : Ways w) :
    Calls Tryd.prog 5 #[.string s] w fun e w' => e = .returned (.bool true) ∧ Below w.heap.size w w' := by
  by_cases h : 600 < s.size
  · exact turned_long s w hw h
  · cases hv : Pure.verdict s.data.toList with
    | bad l c => exact turned_bad s w hw (by omega) hv
    | good L => exact turned_good_walk s w hw (by omega) hv
end Go.Proofs.YtlkojoinbogkmaaDoor
