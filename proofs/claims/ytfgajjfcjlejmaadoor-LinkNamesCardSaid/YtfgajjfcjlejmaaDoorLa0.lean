/-
  Alarms: delays as numbers; which rules may be; a tick behind another one.
-/
import Derived.Test.YtfgajjfcjlejmaaDoorHeap
import Derived.Test.YtfgajjfcjlejmaaDoorKp
import Derived.OwnWalk
import Derived.Lib.Hide
namespace Go.Proofs.YtfgajjfcjlejmaaDoor
set_option maxRecDepth 100000
set_option linter.unusedSimpArgs false
open Go Go.RowKit

/-- The delay of so many tries. -/
def dly (b c : Nat) (t : Int) : Nat := min (b * 2 ^ t.toNat) c
/-- Whether a rule may be. -/
def okR (b c : Nat) : Bool := decide (1 ≤ b ∧ b ≤ c ∧ c ≤ 4294967296)
def topT : Nat := 18446744073709551615
def beh (n d : Nat) : Nat := min (n + d) topT

theorem dly_zero {b c : Nat} {t : Int} (h : b ≤ c) (ht : t ≤ 0) : dly b c t = b := by
  have : t.toNat = 0 := by omega
  rw [dly, this]; simp; omega
theorem dly_le (b c : Nat) (t : Int) : dly b c t ≤ c := Nat.min_le_right _ _
theorem dly_succ (b c k : Nat) : dly b c ((k + 1 : Nat) : Int) = min (2 * dly b c (k : Int)) c := by
  simp only [dly, Int.toNat_natCast, Nat.pow_succ]
  have : b * (2 ^ k * 2) = 2 * (b * 2 ^ k) := by rw [← Nat.mul_assoc, Nat.mul_comm]
  rw [this]
  generalize b * 2 ^ k = x
  omega
theorem dly_mono {b c : Nat} {s t : Int} (h : s ≤ t) : dly b c s ≤ dly b c t := by
  have hp : 2 ^ s.toNat ≤ 2 ^ t.toNat := Nat.pow_le_pow_right (by omega) (by omega)
  have := Nat.mul_le_mul_left b hp
  unfold dly
  omega
theorem dly_cap {b c : Nat} {t : Int} (hb : 1 ≤ b) (hc : c ≤ 4294967296) (ht : 33 ≤ t) : dly b c t = c := by
  have h1 : dly b c 33 ≤ dly b c t := dly_mono ht
  have h2 : dly b c 33 = c := by
    have : dly b c 33 = min (b * 2 ^ 33) c := rfl
    rw [this]
    have : (2 : Nat) ^ 33 = 8589934592 := rfl
    rw [this]
    omega
  have := dly_le b c t
  omega
theorem dly_pos {b c : Nat} (h2 : b ≤ c) (t : Int) : b ≤ dly b c t := by
  have h0 : dly b c 0 = b := dly_zero h2 (by omega)
  by_cases ht : 0 ≤ t
  · have := dly_mono (b := b) (c := c) ht
    omega
  · rw [dly_zero h2 (by omega)]; omega
/-- Where the tries stand, or the cap is come to, the delay is the delay. -/
theorem dly_stop {b c k : Nat} {t : Int} (hbc : b ≤ c) (hk : k = 0 ∨ (k : Int) ≤ t) (h : t ≤ k ∨ dly b c k = c) : dly b c (k : Int) = dly b c t := by
  by_cases h0 : t ≤ 0
  · have hk0 : k = 0 := by omega
    subst hk0
    rw [dly_zero hbc h0, dly_zero hbc (by simp)]
  · rcases h with h | h
    · have : (k : Int) = t := by omega
      rw [this]
    · have h1 : dly b c (k : Int) ≤ dly b c t := dly_mono (by omega)
      have h2 := dly_le b c t
      omega
def delW (w : World) (v : Value) (t : TypeId) : World := w.alloc (.cells #[v] t)

def ruC (b c : Nat) : Array Value := #[.int .u64 (b : Nat), .int .u64 (c : Nat)]
@[reducible] def ruV (b c : Nat) : Value := .agg #[.int .u64 (b : Nat), .int .u64 (c : Nat)]
def ruO (b c : Nat) : Obj := .cells #[.int .u64 (b : Nat), .int .u64 (c : Nat)] 25
def erI (b c : Nat) : Int := if okR b c then 0 else 90

theorem au64_in {n : Int} (h : 0 ≤ n) (h2 : n ≤ 18446744073709551615) : IntKind.u64.wrap n = n := by
  simp [IntKind.wrap, IntKind.bits, IntKind.signed]; omega

theorem acheck_any (w : World) (b c : Nat) :
    Calls Tryd.prog 32 #[ruV b c] w fun e w' => e = .returned (.int .i64 (erI b c)) ∧ w' = w.alloc (ruO b c) := by
  obtain ⟨P, hP⟩ : ∃ P : Ending → World → Prop, P = fun e w' => e = .returned (.int .i64 (erI b c)) ∧ w' = w.alloc (ruO b c) := ⟨_, rfl⟩
  have HG : Hid (okR b c = true → P (.returned (.int .i64 0)) (w.alloc (ruO b c))) := fun h => by rw [hP, erI, if_pos h]; exact ⟨rfl, rfl⟩
  have HB : Hid (okR b c = false → P (.returned (.int .i64 90)) (w.alloc (ruO b c))) := fun h => by rw [hP, erI, h]; exact ⟨rfl, rfl⟩
  rw [← hP]
  clear hP
  by_cases h1 : 1 ≤ b
  · by_cases h2 : b ≤ c
    · by_cases h3 : c ≤ 4294967296
      · have e1 : decide ((b : Int) < 1) = false := by simp; omega
        have e2 : decide (c < b) = false := by simp; omega
        have e3 : decide ((4294967296 : Int) < (c : Int)) = false := by simp; omega
        have HF := Lib.hid (HG.out (by simp [okR, h1, h2, h3]))
        clear h1 h2 h3 HG HB
        go_enter Tryd.func32, Tryd.ntmps32
        go_wp2
        exact HF.out
      · have e1 : decide ((b : Int) < 1) = false := by simp; omega
        have e2 : decide (c < b) = false := by simp; omega
        have e3 : decide ((4294967296 : Int) < (c : Int)) = true := by simp; omega
        have HF := Lib.hid (HB.out (by simp [okR, h3]))
        clear h1 h2 h3 HG HB
        go_enter Tryd.func32, Tryd.ntmps32
        go_wp2
        exact HF.out
    · have e1 : decide ((b : Int) < 1) = false := by simp; omega
      have e2 : decide (c < b) = true := by simp; omega
      have HF := Lib.hid (HB.out (by simp [okR]; omega))
      clear h1 h2 HG HB
      go_enter Tryd.func32, Tryd.ntmps32
      go_wp2
      exact HF.out
  · have e1 : decide ((b : Int) < 1) = true := by simp; omega
    have HF := Lib.hid (HB.out (by simp [okR, h1]))
    clear h1 HG HB
    go_enter Tryd.func32, Tryd.ntmps32
    go_wp2
    exact HF.out

theorem behind_any (w : World) {n d : Nat} (hn : n ≤ topT) (hd : d ≤ topT) :
    Calls Tryd.prog 59 #[.int .u64 (n : Nat), .int .u64 (d : Nat)] w fun e w' => e = .returned (.int .u64 (beh n d : Nat)) ∧ w' = w := by
  unfold topT at hn hd
  have hs : IntKind.u64.wrap (18446744073709551615 - (n : Int)) = 18446744073709551615 - (n : Int) := au64_in (by omega) (by omega)
  by_cases h : 18446744073709551615 - (n : Int) < (d : Int)
  · have e1 : decide (18446744073709551615 - (n : Int) < (d : Int)) = true := by simp; omega
    have HF : Hid (Ending.returned (.int .u64 18446744073709551615) = .returned (.int .u64 (beh n d : Nat))) := by
      rw [show beh n d = 18446744073709551615 by unfold beh topT; omega]; rfl
    clear h hn hd
    go_enter Tryd.func59, Tryd.ntmps59
    go_wp2
    go_ret
    exact ⟨HF.out, rfl⟩
  · have e1 : decide (18446744073709551615 - (n : Int) < (d : Int)) = false := by simp; omega
    have e2 : IntKind.u64.wrap ((n : Int) + (d : Int)) = (n : Int) + (d : Int) := au64_in (by omega) (by omega)
    have HF : Hid (Ending.returned (.int .u64 ((n : Int) + (d : Int))) = .returned (.int .u64 (beh n d : Nat))) := by
      rw [show ((n : Int) + (d : Int)) = ((beh n d : Nat) : Int) by unfold beh topT; omega]; rfl
    clear h hn hd
    go_enter Tryd.func59, Tryd.ntmps59
    go_wp2
    go_ret
    exact ⟨HF.out, rfl⟩
end Go.Proofs.YtfgajjfcjlejmaaDoor
