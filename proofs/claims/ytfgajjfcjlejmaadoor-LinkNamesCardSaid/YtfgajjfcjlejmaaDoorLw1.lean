/-
  Windows in memory: the last in order, one behind it, the bit of a number, whether it was met.
-/
import Derived.Test.YtfgajjfcjlejmaaDoorWi0
import Derived.Test.YtfgajjfcjlejmaaDoorHeap
import Derived.Test.YtfgajjfcjlejmaaDoorKp
import Derived.OwnWalk
import Derived.Laws.Bits64b
import Derived.RegionTactic
import Derived.BigRegion
import Derived.WalkSpells
import Derived.Deep.RegionHeld3
import Derived.StillTailTactics
import Derived.Deep.QuietTactic
import Derived.BigQuiet
namespace Go.Proofs.YtfgajjfcjlejmaaDoor
set_option maxRecDepth 100000
set_option linter.unusedSimpArgs false
open Go Go.RowKit

/-- A window in memory. -/
@[reducible] def lnkC (f : Nat → Value) (l e : Nat) : Array Value := #[f 0, f 1, f 2, f 3, f 4, f 5, f 6, f 7, .int .u32 (l : Nat), .int .u64 (e : Nat), f 10, f 11, f 12, f 13]
def WinAt (w : World) (b : Nat) (f : Nat → Value) (l e : Nat) : Prop := w.heap[b]? = some (.cells (lnkC f l e) 102 (0, 0))
theorem WinAt.two {w : World} {b : Nat} {f : Nat → Value} {l e : Nat} (h : WinAt w b f l e) : (w.cell? ⟨b, 8, none⟩ = some (.int .u32 (l : Nat)) ∧ w.cell? ⟨b, 9, none⟩ = some (.int .u64 (e : Nat))) ∧ w.frozen? ⟨b, 8, none⟩ = false ∧ w.frozen? ⟨b, 9, none⟩ = false :=
  ⟨⟨by rw [blk_cell h]; rfl, by rw [blk_cell h]; rfl⟩, blk_free h 8, blk_free h 9⟩

theorem last_any {w : World} {b : Nat} {f : Nat → Value} {l e : Nat} (h : WinAt w b f l e) :
    Calls Tryd.prog 65 #[.pointer (some ⟨b, 8, none⟩)] w fun x w' => x = .returned (.int .u32 (l : Nat)) ∧ w' = w := by
  obtain ⟨⟨c0, c1⟩, _⟩ := h.two
  clear h
  go_enter Tryd.func65, Tryd.ntmps65
  go_wp2
  go_ret
  exact ⟨rfl, rfl⟩
theorem last_none (w : World) :
    Calls Tryd.prog 65 #[.pointer none] w fun x w' => x = .returned (.int .u32 0) ∧ w' = w := by
  go_enter Tryd.func65, Tryd.ntmps65
  go_wp2
  go_ret
  exact ⟨rfl, rfl⟩

theorem u32_in {n : Int} (h : 0 ≤ n) (h2 : n ≤ 4294967295) : IntKind.u32.wrap n = n := by
  simp [IntKind.wrap, IntKind.bits, IntKind.signed]; omega
theorem next_any {w : World} {b : Nat} {f : Nat → Value} {l e : Nat} (h : WinAt w b f l e) (hl : l < 4294967295) :
    Calls Tryd.prog 71 #[.pointer (some ⟨b, 8, none⟩)] w fun x w' => x = .returned (.tuple #[.int .u32 ((l : Int) + 1), .bool true]) ∧ w' = w := by
  obtain ⟨⟨c0, c1⟩, _⟩ := h.two
  have hw : IntKind.u32.wrap ((l : Int) + 1) = (l : Int) + 1 := u32_in (by omega) (by omega)
  have e1 : ((l : Int) == 4294967295) = false := by
    have : ¬ (l : Int) = 4294967295 := by omega
    simpa using this
  clear h hl
  go_enter Tryd.func71, Tryd.ntmps71
  go_wp2
  refine bodyPost_ret (v := .tuple #[.int .u32 ((l : Int) + 1), .bool true]) (by simp [results, Tryd.results71, go_sem]) rfl ⟨rfl, rfl⟩
theorem next_none (w : World) :
    Calls Tryd.prog 71 #[.pointer none] w fun x w' => x = .returned (.tuple #[.int .u32 0, .bool false]) ∧ w' = w := by
  go_enter Tryd.func71, Tryd.ntmps71
  go_wp2
  refine bodyPost_ret (v := .tuple #[.int .u32 0, .bool false]) (by simp [results, Tryd.results71, go_sem]) rfl ⟨rfl, rfl⟩

/-- The bit of a number above the last in order. -/
def bitN (l n : Nat) : Nat := if n - l - 1 < 64 then 2 ^ (n - l - 1) else 0
theorem shl_one (s : Nat) : IntKind.u64.wrap (2 ^ min s 64) = ((if s < 64 then 2 ^ s else 0 : Nat) : Int) := by
  rw [IntKind.wrap_u64]
  by_cases h : s < 64
  · rw [if_pos h, Nat.min_eq_left (by omega)]
    have h1 : 2 ^ s < 2 ^ 64 := Nat.pow_lt_pow_right (by omega) h
    have h2 : ((2 : Int) ^ s) = ((2 ^ s : Nat) : Int) := by push_cast; rfl
    rw [h2]
    generalize 2 ^ s = x at *
    have h3 : (2 : Nat) ^ 64 = 18446744073709551616 := by decide
    omega
  · rw [if_neg h, Nat.min_eq_right (by omega)]; decide
theorem bit_any {w : World} {b : Nat} {f : Nat → Value} {l e n : Nat} (h : WinAt w b f l e) (h1 : l < n) (h2 : n ≤ 4294967295) :
    Calls Tryd.prog 77 #[.pointer (some ⟨b, 8, none⟩), .int .u32 (n : Nat)] w fun x w' => x = .returned (.int .u64 (bitN l n : Nat)) ∧ w' = w := by
  obtain ⟨⟨c0, c1⟩, _⟩ := h.two
  have w1 : IntKind.u32.wrap ((n : Int) - (l : Int)) = ((n - l : Nat) : Int) := by rw [u32_in (by omega) (by omega)]; omega
  have w2 : IntKind.u32.wrap (((n - l : Nat) : Int) - 1) = ((n - l - 1 : Nat) : Int) := by rw [u32_in (by omega) (by omega)]; omega
  have w3 := shl_one (n - l - 1)
  have HB := Lib.hid (show bitN l n = if n - l - 1 < 64 then 2 ^ (n - l - 1) else 0 from rfl)
  clear h h1 h2
  generalize bitN l n = B at *
  rw [← HB.out] at w3
  clear HB
  generalize n - l - 1 = s at *
  go_enter Tryd.func77, Tryd.ntmps77
  go_wp2
  go_ret
  exact ⟨by simp only [w3, Array.getD]; rfl, rfl⟩

theorem and_pow (e s : Nat) : (e &&& 2 ^ s != 0) = e.testBit s := by
  cases h : e.testBit s
  · have : e &&& 2 ^ s = 0 := Nat.eq_of_testBit_eq fun i => by
      rw [Nat.testBit_and, Nat.testBit_two_pow, Nat.zero_testBit]
      by_cases hi : s = i
      · subst hi; simp [h]
      · simp [hi]
    rw [this]; rfl
  · have h1 : (e &&& 2 ^ s).testBit s = true := by rw [Nat.testBit_and, Nat.testBit_two_pow, h]; simp
    have : ¬ e &&& 2 ^ s = 0 := fun h0 => by rw [h0, Nat.zero_testBit] at h1; cases h1
    simpa using this
theorem and_bit {e l n : Nat} (he : e < 18446744073709551616) : (bits BinOp.and IntKind.u64 (e : Int) (bitN l n : Nat) != 0) = e.testBit (n - l - 1) := by
  unfold bitN
  by_cases h : n - l - 1 < 64
  · rw [if_pos h]
    have h1 : 2 ^ (n - l - 1) < 2 ^ 64 := Nat.pow_lt_pow_right (by omega) h
    rw [bits_and_u64_nat e _ he (by simpa using h1), ← and_pow e (n - l - 1)]
    generalize e &&& 2 ^ (n - l - 1) = x
    by_cases hx : x = 0
    · subst hx; rfl
    · have h2 : (x != 0) = true := by simpa using hx
      rw [h2]
      have : ¬ (x : Int) = 0 := by omega
      simpa using this
  · rw [if_neg h, Wd.bit_hi he (by omega), bits_and_u64_nat e 0 he (by omega), Nat.and_zero]
    rfl

theorem whas_any {w : World} {b : Nat} {f : Nat → Value} {l e n : Nat} (h : WinAt w b f l e) (he : e < 18446744073709551616) (hn : n ≤ 4294967295) :
    Calls Tryd.prog 76 #[.pointer (some ⟨b, 8, none⟩), .int .u32 (n : Nat)] w fun x w' => x = .returned (.bool (Wd.has l e n)) ∧ ∃ k, w' = w.drewN k := by
  obtain ⟨P, hP⟩ : ∃ P : Ending → World → Prop, P = fun x w' => x = .returned (.bool (Wd.has l e n)) ∧ ∃ k, w' = w.drewN k := ⟨_, rfl⟩
  have HQ : Hid (∀ k, P (.returned (.bool (Wd.has l e n))) (w.drewN k)) := by rw [hP]; exact fun k => ⟨rfl, k, rfl⟩
  rw [← hP]
  clear hP
  obtain ⟨⟨c0, c1⟩, _⟩ := h.two
  by_cases h0 : n = 0
  · subst h0
    rw [Wd.has_zero] at HQ
    have HF := Lib.hid (HQ.out 0)
    clear h HQ
    go_enter Tryd.func76, Tryd.ntmps76
    go_wp2
    exact HF.out
  · have e0 : ((n : Int) == 0) = false := by
      have : ¬ (n : Int) = 0 := by omega
      simpa using this
    by_cases hl : n ≤ l
    · rw [Wd.has_low h0 hl] at HQ
      have e1 : decide ((n : Int) ≤ (l : Int)) = true := by simpa using hl
      have e2 : decide (n ≤ l) = true := by simpa using hl
      clear h h0 hl
      go_enter Tryd.func76, Tryd.ntmps76
      go_wp2_with fail
      go_quiet (fail)
      go_wp2
      exact HQ.out _
    · rw [Wd.has_high (by omega)] at HQ
      have e1 : decide ((n : Int) ≤ (l : Int)) = false := by simp; omega
      have e2 : decide (n ≤ l) = false := by simp; omega
      have HB := Lib.hid (fun k => bit_any (w := w.drewN k) (b := b) (f := f) (l := l) (e := e) (n := n) h (by omega) hn)
      have e3 := and_bit (e := e) (l := l) (n := n) he
      generalize e.testBit (n - l - 1) = t at *
      generalize bitN l n = B at *
      clear h h0 hl
      go_enter Tryd.func76, Tryd.ntmps76
      go_wp2_with fail
      go_quiet (exact Calls.quiet_of_same (HB.out _))
      go_wp2
      exact HQ.out _
theorem whas_none (w : World) (n : Int) :
    Calls Tryd.prog 76 #[.pointer none, .int .u32 n] w fun x w' => x = .returned (.bool false) ∧ w' = w := by
  go_enter Tryd.func76, Tryd.ntmps76
  go_wp2
  go_ret
  exact ⟨rfl, rfl⟩
end Go.Proofs.YtfgajjfcjlejmaaDoor
