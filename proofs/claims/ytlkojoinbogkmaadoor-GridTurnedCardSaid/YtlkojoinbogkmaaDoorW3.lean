/-
  The walks of grid.Map's questions on cells.
-/
import Derived.Test.YtlkojoinbogkmaaDoorW1
namespace Go.Proofs.YtlkojoinbogkmaaDoor
set_option maxRecDepth 100000
open Go.RowKit

def byteV (c : UInt8) : Value := .int .u8 (c.toNat : Int)

set_option maxHeartbeats 400000 in
theorem has_any (b n cap : Nat) (a : Option Addr) (i : Int) (w : World) (hm : w.cell? ⟨b, 2, none⟩ = some (.slice a n cap)) :
    Calls Tryd.prog 30 #[.pointer (some ⟨b, 0, none⟩), .int .i64 i] w fun e w' => e = .returned (.bool (decide (0 ≤ i) && decide (i < (n : Int)))) ∧ w = w' := by
  by_cases h : 0 ≤ i
  all_goals
    go_enter Tryd.func30, Tryd.ntmps30
    go_wp2_with (go_at_call 22; refine (cells_any _ _ _ _ _ hm).mono ?_; rintro e w' ⟨rfl, rfl⟩)
    go_ret
    exact ⟨by first | (simp [h]; done) | (simp; omega), rfl⟩

/-- Is a cell free? -/
def freeB (ms : List UInt8) (i : Int) : Bool := decide (0 ≤ i) && decide (i < (ms.length : Int)) && (ms.getD i.toNat 0 != 35)
/-- A cell's character; 0: there is no such cell. -/
def kindB (ms : List UInt8) (i : Int) : UInt8 := if 0 ≤ i ∧ i < (ms.length : Int) then ms.getD i.toNat 0 else 0

theorem neq35 (c : UInt8) : ((c.toNat : Int) != 35) = (c != 35) := by
  have h : ∀ n : Fin 256, ((n.val : Int) != 35) = (UInt8.ofNat n.val != 35) := by decide +kernel
  have := h ⟨c.toNat, c.toNat_lt⟩
  simpa using this

set_option maxHeartbeats 400000 in
theorem free_any (b g cap : Nat) (ms : List UInt8) (i : Int) (w : World) (hm : w.cell? ⟨b, 2, none⟩ = some (.slice (some ⟨g, 0, none⟩) ms.length cap))
    (hc : ∀ j, j < ms.length → w.cell? ⟨g, j, none⟩ = some (byteV (ms.getD j 0))) :
    Calls Tryd.prog 23 #[.pointer (some ⟨b, 0, none⟩), .int .i64 i] w fun e w' => e = .returned (.bool (freeB ms i)) ∧ w = w' := by
  by_cases h : 0 ≤ i ∧ i < (ms.length : Int)
  · obtain ⟨k, rfl⟩ := Int.eq_ofNat_of_zero_le h.1
    have hk : k < ms.length := by omega
    have hck : w.cell? ⟨g, k, none⟩ = some (.int .u8 ((ms.getD k 0).toNat : Int)) := hc k hk
    have hfr : freeB ms (k : Int) = (((ms.getD k 0).toNat : Int) != 35) := by rw [neq35]; simp [freeB, hk]
    have HF := hfr
    rw [hfr]
    generalize ms.getD k 0 = c at hck hfr HF
    clear hc h HF hfr
    have hb : (decide (0 ≤ (k : Int)) && decide ((k : Int) < (ms.length : Int))) = true := by simp [hk]
    go_enter Tryd.func23, Tryd.ntmps23
    go_wp2_with (go_at_call 30; refine (has_any _ _ _ _ _ _ hm).mono ?_; rintro e w' ⟨rfl, rfl⟩; rw [hb])
    go_ret
    exact ⟨rfl, rfl⟩
  · have hb : (decide (0 ≤ i) && decide (i < (ms.length : Int))) = false := by
      rw [Bool.eq_false_iff]; intro e; apply h; simpa using e
    have hfr : freeB ms i = false := by unfold freeB; rw [hb]; rfl
    rw [hfr]
    clear hc h hfr
    go_enter Tryd.func23, Tryd.ntmps23
    go_wp2_with (go_at_call 30; refine (has_any _ _ _ _ _ _ hm).mono ?_; rintro e w' ⟨rfl, rfl⟩; rw [hb])
    go_ret
    exact ⟨rfl, rfl⟩

set_option maxHeartbeats 400000 in
theorem kind_any (b g cap : Nat) (ms : List UInt8) (i : Int) (w : World) (hm : w.cell? ⟨b, 2, none⟩ = some (.slice (some ⟨g, 0, none⟩) ms.length cap))
    (hc : ∀ j, j < ms.length → w.cell? ⟨g, j, none⟩ = some (byteV (ms.getD j 0))) :
    Calls Tryd.prog 24 #[.pointer (some ⟨b, 0, none⟩), .int .i64 i] w fun e w' => e = .returned (.int .u8 ((kindB ms i).toNat : Int)) ∧ w = w' := by
  by_cases h : 0 ≤ i ∧ i < (ms.length : Int)
  · have hk' : kindB ms i = ms.getD i.toNat 0 := by simp [kindB, h]
    rw [hk']
    obtain ⟨k, rfl⟩ := Int.eq_ofNat_of_zero_le h.1
    have hk : k < ms.length := by omega
    have hck : w.cell? ⟨g, k, none⟩ = some (.int .u8 ((ms.getD k 0).toNat : Int)) := hc k hk
    simp only [Int.toNat_natCast]
    generalize ms.getD k 0 = c at hck
    clear hc h hk'
    have hb : (decide (0 ≤ (k : Int)) && decide ((k : Int) < (ms.length : Int))) = true := by simp [hk]
    go_enter Tryd.func24, Tryd.ntmps24
    go_wp2_with (go_at_call 30; refine (has_any _ _ _ _ _ _ hm).mono ?_; rintro e w' ⟨rfl, rfl⟩; rw [hb])
    go_ret
    exact ⟨rfl, rfl⟩
  · have hb : (decide (0 ≤ i) && decide (i < (ms.length : Int))) = false := by
      rw [Bool.eq_false_iff]; intro e; apply h; simpa using e
    have hfr : kindB ms i = 0 := by simp [kindB, h]
    rw [hfr]
    clear hc h hfr
    go_enter Tryd.func24, Tryd.ntmps24
    go_wp2_with (go_at_call 30; refine (has_any _ _ _ _ _ _ hm).mono ?_; rintro e w' ⟨rfl, rfl⟩; rw [hb])
    go_ret
    exact ⟨rfl, rfl⟩
end Go.Proofs.YtlkojoinbogkmaaDoor
