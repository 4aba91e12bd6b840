/-
  What a link takes; messages by their numbers, told one by one.
-/
import Derived.Test.YtfgajjfcjlejmaaDoorLkB
import Derived.RangeFuncNested
import Derived.RangeFuncBound
import Derived.RangeFuncCalls
import Derived.RangeFuncLeaves
import Derived.Shelf.Abstract
import Derived.Shelf.RegionOpen
import Derived.OwnWalkIn
import Derived.TacticsInMore
import Derived.LoopNIn
import Derived.LoopIn
import Derived.Maps.RangeWalk
namespace Go.Proofs.YtfgajjfcjlejmaaDoor
set_option maxRecDepth 100000
set_option linter.unusedSimpArgs false
open Go Go.RowKit Wr
open Go.Maps (Keyed)
attribute [local go_sem] Oper.semAt_some

theorem takes_any {w : World} {T S : Nat → Prop} {o N : Nat} {s : Lk.S} (h : LnkAt w T S o N s) (hl : s.l ≤ 4294967295) (p : Pkt) {A : Option Addr} {n cap : Nat} (hq : p.seq ≤ 4294967295) :
    Calls Tryd.prog 48 #[.pointer (some ⟨o, 6, none⟩), pktA p A n cap] w fun e w' => e = .returned (.bool (Lk.takes s p.seq p.msg.kind)) ∧ Below w.heap.size w w' := by
  obtain ⟨P, hP⟩ : ∃ P : Ending → World → Prop, P = fun e w' => e = .returned (.bool (Lk.takes s p.seq p.msg.kind)) ∧ Below w.heap.size w w' := ⟨_, rfl⟩
  have HP : Hid (∀ o, P (.returned (.bool (Lk.takes s p.seq p.msg.kind))) (w.alloc o)) := by rw [hP]; exact fun o => ⟨rfl, (Below.refl _ w).alloc (Nat.le_refl _) o⟩
  rw [← hP]
  clear hP
  have HLA : Hid (∀ W, Below w.heap.size w W → Calls Tryd.prog 65 #[.pointer (some ⟨o, 8, none⟩)] W fun x w' => x = .returned (.int .u32 (s.l : Nat)) ∧ w' = W) := by
    intro W hW
    obtain ⟨f, hf⟩ := (h.below hW).win
    exact last_any hf
  have HBA : Hid (∀ o, Below w.heap.size w (w.alloc o)) := fun o => (Below.refl _ w).alloc (Nat.le_refl _) o
  obtain ⟨f, t, fe, te, sq, mt, ⟨k, m1, m2, m3, m4, m5, m6, m7, m8⟩⟩ := p
  simp only at hq HP
  unfold Lk.takes at HP
  generalize s.l = l at *
  clear h
  by_cases h0 : sq = 0
  · subst h0
    have HF : Hid (∀ o, P (.returned (.bool false)) (w.alloc o)) := fun o => HP.out o
    clear HP hq hl
    go_enter Tryd.func48, Tryd.ntmps48
    go_wp2
    exact HF.out _
  · have e0 : ((sq : Int) == 0) = false := by
      have : ¬ (sq : Int) = 0 := by omega
      simpa using this
    have e0' : (sq == 0) = false := by simpa using h0
    rw [e0'] at HP
    cases hb : Lk.isB k with
    | true =>
      rw [hb] at HP
      have HK := Lib.hid hb
      have HF : Hid (∀ o, P (.returned (.bool false)) (w.alloc o)) := fun o => HP.out o
      clear HP hq hl hb h0
      go_enter Tryd.func48, Tryd.ntmps48
      go_wp2_with ((with_reducible refine (isBare_any _ _).mono ?_); rintro e w3 ⟨rfl, hw3⟩; rw [hw3, HK.out]; clear hw3)
      exact HF.out _
    | false =>
      rw [hb] at HP
      have HK := Lib.hid hb
      by_cases h1 : sq ≤ l
      · have e1 : decide ((sq : Int) ≤ (l : Int)) = true := by simpa using h1
        have e1' : decide (sq ≤ l) = true := by simpa using h1
        have e2 : decide (sq ≤ l + 8) = true := by simp; omega
        rw [e2] at HP
        have HF : Hid (∀ o, P (.returned (.bool true)) (w.alloc o)) := fun o => HP.out o
        clear HP hq hl hb h0 h1 e2
        go_enter Tryd.func48, Tryd.ntmps48
        go_wp2_with (first | ((with_reducible refine (isBare_any _ _).mono ?_); rintro e w3 ⟨rfl, hw3⟩; rw [hw3, HK.out]; clear hw3) | (refine (HLA.out _ (HBA.out _)).mono ?_; rintro e w4 ⟨rfl, hw4⟩; rw [hw4]; clear hw4))
        exact HF.out _
      · have e1 : decide ((sq : Int) ≤ (l : Int)) = false := by simpa using h1
        have e1' : decide (sq ≤ l) = false := by simpa using h1
        have w1 : IntKind.u32.wrap ((sq : Int) - (l : Int)) = ((sq - l : Nat) : Int) := by rw [u32_in (by omega) (by omega)]; omega
        obtain ⟨d, hd⟩ : ∃ d, d = sq - l := ⟨_, rfl⟩
        rw [← hd] at w1
        cases hq8 : decide (sq ≤ l + 8) with
        | true =>
          rw [hq8] at HP
          have h8 : sq ≤ l + 8 := of_decide_eq_true hq8
          have e2 : decide ((d : Int) ≤ 8) = true := by simp; omega
          have e2' : decide (d ≤ 8) = true := by simp; omega
          have HF : Hid (∀ o, P (.returned (.bool true)) (w.alloc o)) := fun o => HP.out o
          clear HP hq hl hb h0 h1 hq8 hd h8
          go_enter Tryd.func48, Tryd.ntmps48
          go_wp2_with (first | ((with_reducible refine (isBare_any _ _).mono ?_); rintro e w3 ⟨rfl, hw3⟩; rw [hw3, HK.out]; clear hw3) | (refine (HLA.out _ (HBA.out _)).mono ?_; rintro e w4 ⟨rfl, hw4⟩; rw [hw4]; clear hw4))
          exact HF.out _
        | false =>
          rw [hq8] at HP
          have h8 : ¬ sq ≤ l + 8 := of_decide_eq_false hq8
          have e2 : decide ((d : Int) ≤ 8) = false := by simp; omega
          have e2' : decide (d ≤ 8) = false := by simp; omega
          have HF : Hid (∀ o, P (.returned (.bool false)) (w.alloc o)) := fun o => HP.out o
          clear HP hq hl hb h0 h1 hq8 hd h8
          go_enter Tryd.func48, Tryd.ntmps48
          go_wp2_with (first | ((with_reducible refine (isBare_any _ _).mono ?_); rintro e w3 ⟨rfl, hw3⟩; rw [hw3, HK.out]; clear hw3) | (refine (HLA.out _ (HBA.out _)).mono ?_; rintro e w4 ⟨rfl, hw4⟩; rw [hw4]; clear hw4))
          exact HF.out _
theorem next_gen {w : World} {b : Nat} {f : Nat → Value} {l e : Nat} (h : WinAt w b f l e) (hl : l ≤ 4294967295) :
    Calls Tryd.prog 71 #[.pointer (some ⟨b, 8, none⟩)] w fun x w' => (∃ n c, x = .returned (.tuple #[.int .u32 (n : Nat), .bool c]) ∧ (l < 4294967295 → n = l + 1)) ∧ w' = w := by
  by_cases h1 : l < 4294967295
  · refine (next_any h h1).mono ?_
    rintro x w' ⟨rfl, rfl⟩
    exact ⟨⟨l + 1, true, by push_cast; rfl, fun _ => rfl⟩, rfl⟩
  · obtain rfl : l = 4294967295 := by omega
    obtain ⟨⟨c0, c1⟩, _⟩ := h.two
    clear h hl h1
    go_enter Tryd.func71, Tryd.ntmps71
    go_wp2
    refine bodyPost_ret (v := .tuple #[.int .u32 0, .bool false]) (by simp [results, Tryd.results71, go_sem]) rfl ⟨⟨0, false, rfl, fun h => absurd h (by omega)⟩, rfl⟩

@[reducible] def frmF (bn bs : Nat) : Value := .func (.func 79) #[] #[.pointer (some ⟨bn, 0, none⟩), .pointer (some ⟨bs, 0, none⟩)]
theorem from_any (w : World) (o n : Nat) :
    Calls Tryd.prog 73 #[.pointer (some ⟨o, 6, none⟩), .int .u32 (n : Nat)] w fun e w' => e = .returned (frmF (w.heap.size + 1) w.heap.size) ∧ w' = (w.alloc (.cells #[.pointer (some ⟨o, 6, none⟩)] 141)).alloc (.cells #[.int .u32 (n : Nat)] 22) := by
  go_enter Tryd.func73, Tryd.ntmps73
  go_wp2
  go_ret
  exact ⟨rfl, rfl⟩
theorem u32Keyed : Keyed Tryd.prog 22 := Maps.int_keyed Tryd.underlying22
theorem litU_ne {a b : Nat} (h : a ≠ b) : litU a ≠ litU b := by
  intro e
  unfold litU at e
  injection e with _ e
  omega
theorem u32_key {n : Nat} (h : n ≤ 4294967295) : keyOf Tryd.prog 22 (.int .u32 (n : Nat)) = some (litU n) := by
  have hw : (Lit.int .u32 (n : Int)).wf = true := by
    simp [Lit.wf, IntKind.min, IntKind.max, IntKind.signed, IntKind.bits]
    omega
  exact Maps.keyOf_int_mk Tryd.underlying22 hw
theorem zeroMsg_run (w : World) : (zeroValue 37).run Tryd.prog w = .ok zeroMsg w := by kernel_rfl
end Go.Proofs.YtfgajjfcjlejmaaDoor
