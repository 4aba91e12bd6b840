/-
  The small functions' walks.
-/
import Derived.Test.YtlkojoinbogkmaaDoorPure
import Derived.Test.YtlkojoinbogkmaaDoorRows
import Derived.WalkKit
import Derived.WalkSpells
import Derived.WalkLawsBesides
import Derived.Lib.Bytealg
namespace Go.Proofs.YtlkojoinbogkmaaDoor
set_option maxRecDepth 100000
open Go.RowKit

def IdxPost (c : UInt8) (w : World) (e : Ending) (w' : World) : Prop := (∃ n : Int, e = .returned (.int .i64 n) ∧ decide (0 ≤ n) = Pure.okc c) ∧ w = w'

theorem idx_num (c : UInt8) : decide (0 ≤ Lib.indexByte [46, 35, 94, 62, 118, 60] c) = Pure.okc c := by
  have h : ∀ n : Fin 256, decide (0 ≤ Lib.indexByte [46, 35, 94, 62, 118, 60] (UInt8.ofNat n.val)) = Pure.okc (UInt8.ofNat n.val) := by decide +kernel
  have := h ⟨c.toNat, c.toNat_lt⟩
  simpa using this

theorem okc_nat (c : UInt8) : Pure.okc c = ((c.toNat : Int) == 35 || (c.toNat : Int) == 46 || (c.toNat : Int) == 60 || (c.toNat : Int) == 62 || (c.toNat : Int) == 94 || (c.toNat : Int) == 118) := by
  have h : ∀ n : Fin 256, Pure.okc (UInt8.ofNat n.val) = ((n.val : Int) == 35 || (n.val : Int) == 46 || (n.val : Int) == 60 || (n.val : Int) == 62 || (n.val : Int) == 94 || (n.val : Int) == 118) := by decide +kernel
  have := h ⟨c.toNat, c.toNat_lt⟩
  simpa using this

theorem idx_run (s : ByteArray) (c : Int) (w : World) : (callFunc 57 #[.string s, .int .u8 c]).run Tryd.prog w = .ok (.value (.int .i64 (Lib.indexByte s.data.toList c.toNat.toUInt8))) w := by
  rw [run_callFunc_extern Tryd.func57 (by kernel_rfl) (by kernel_rfl) (by kernel_rfl) (e := Extern.BytealgIndexByte.indexByte) (by kernel_rfl), Lib.run_indexByteString]
  simp only [Result.andThen]

set_option maxHeartbeats 400000 in
theorem idx_any (c : UInt8) (w : World) :
    Calls Tryd.prog 42 #[.string ⟨#[46, 35, 94, 62, 118, 60]⟩, .int .u8 (c.toNat : Int)] w (IdxPost c w) := by
  have h := fun (w : World) => idx_run ⟨#[46, 35, 94, 62, 118, 60]⟩ (c.toNat : Int) w
  go_enter Tryd.func42, Tryd.ntmps42
  go_wp2
  go_ret
  refine ⟨⟨_, rfl, ?_⟩, rfl⟩
  exact idx_num c

set_option maxHeartbeats 400000 in
/-- The document's 'cell'. -/
theorem cell_any (c : UInt8) (w : World) :
    Calls Tryd.prog 29 #[.int .u8 (c.toNat : Int)] w fun e w' => e = .returned (.bool (Pure.okc c)) ∧ w = w' := by
  go_enter Tryd.func29, Tryd.ntmps29
  go_wp2
  all_goals
    go_ret
    refine ⟨?_, rfl⟩
    rw [okc_nat]
    simp [*]

set_option maxHeartbeats 400000 in
theorem rows_any (b : Nat) (n : Int) (w : World) (h : w.cell? ⟨b, 0, none⟩ = some (.int .i64 n)) :
    Calls Tryd.prog 25 #[.pointer (some ⟨b, 0, none⟩)] w fun e w' => e = .returned (.int .i64 n) ∧ w = w' := by
  go_enter Tryd.func25, Tryd.ntmps25
  go_wp2
  go_ret
  exact ⟨rfl, rfl⟩

set_option maxHeartbeats 400000 in
theorem cols_any (b : Nat) (n : Int) (w : World) (h : w.cell? ⟨b, 1, none⟩ = some (.int .i64 n)) :
    Calls Tryd.prog 26 #[.pointer (some ⟨b, 0, none⟩)] w fun e w' => e = .returned (.int .i64 n) ∧ w = w' := by
  go_enter Tryd.func26, Tryd.ntmps26
  go_wp2
  go_ret
  exact ⟨rfl, rfl⟩

set_option maxHeartbeats 400000 in
theorem cells_any (b : Nat) (a : Option Addr) (n k : Nat) (w : World) (h : w.cell? ⟨b, 2, none⟩ = some (.slice a n k)) :
    Calls Tryd.prog 22 #[.pointer (some ⟨b, 0, none⟩)] w fun e w' => e = .returned (.int .i64 (n : Int)) ∧ w = w' := by
  go_enter Tryd.func22, Tryd.ntmps22
  go_wp2
  go_ret
  exact ⟨rfl, rfl⟩

theorem ret_bool {a b : Bool} (h : a = b) : Ending.returned (.bool a) = .returned (.bool b) := by rw [h]
theorem ten_iff (c : UInt8) : c = 10 ↔ (c.toNat : Int) = 10 := by
  constructor
  · rintro rfl; rfl
  · intro h; apply UInt8.toNat_inj.1; show c.toNat = 10; omega

/-- What 'takes' answers. -/
def takesB (c : UInt8) (line col cols : Nat) : Bool :=
  !decide (32 < line) && (if c = 10 then (if line = 1 then decide (1 < col) else decide (col = cols + 1)) else Pure.okc c && decide (col ≤ if 1 < line then cols else 32))

set_option maxHeartbeats 400000 in
theorem takes_any (b : Nat) (c : UInt8) (line col cols : Nat) (w : World) (h : w.cell? ⟨b, 1, none⟩ = some (.int .i64 (cols : Int))) (h1 : line ≤ 100) (h2 : col ≤ 100) (h3 : cols ≤ 100) :
    Calls Tryd.prog 28 #[.pointer (some ⟨b, 0, none⟩), .int .u8 (c.toNat : Int), .int .i64 (line : Int), .int .i64 (col : Int)] w fun e w' => e = .returned (.bool (takesB c line col cols)) ∧ w = w' := by
  go_enter Tryd.func28, Tryd.ntmps28
  go_wp2_with (go_at_call 42; refine (idx_any c _).mono ?_; rintro e w' ⟨⟨n, rfl, hn⟩, rfl⟩)
  all_goals
    go_ret
    refine ⟨ret_bool ?_, rfl⟩
    rw [Bool.eq_iff_iff]
    simp only [takesB, ten_iff]
    simp_all
    try (first | omega | (split <;> omega))

end Go.Proofs.YtlkojoinbogkmaaDoor
