/-
  The law WindowNames: its walk.
-/
import Derived.Test.YtcbgadjnheagmaaDoorWiM
namespace Go.Proofs.YtcbgadjnheagmaaDoor
set_option maxRecDepth 100000
set_option linter.unusedSimpArgs false
open Go Go.RowKit

namespace Wd
theorem step_in {l e n : Nat} (h : Ok l e) (h0 : n ≠ 0) (hn : n ≤ l + 64) (m : Nat) : has (nl l e n) (ne l e n) m = (has l e m || decide (m = n)) := by
  rw [step_has h]
  by_cases h1 : has l e n = true
  · have hc : code l e n = 2 := by unfold code; rw [if_neg h0, if_pos h1]
    rw [hc]
    by_cases hm : m = n
    · subst hm; rw [h1]; rfl
    · simp [hm]
  · have hc : code l e n = 1 := by unfold code; rw [if_neg h0, if_neg h1, if_neg (by omega)]
    rw [hc]; simp
/-- All below n, and 66. -/
def Fil (l e n : Nat) : Prop := ∀ m, has l e m = decide (m ≠ 0 ∧ (m < n ∨ m = 66))
theorem fil_ge {l e n : Nat} (h : Ok l e) (hf : Fil l e n) (hn : 3 ≤ n) : 2 ≤ l := by
  have h1 := not_next h
  rw [hf] at h1
  have := of_decide_eq_false h1
  omega
theorem Fil.step {l e n : Nat} (h : Ok l e) (hf : Fil l e n) (hn : 3 ≤ n) (hm : n ≤ 66) : Fil (nl l e n) (ne l e n) (n + 1) := by
  intro m
  have := fil_ge h hf hn
  rw [step_in h (by omega) (by omega), hf, Bool.eq_iff_iff]
  simp only [Bool.or_eq_true, decide_eq_true_eq]
  omega
theorem ok_66 : Ok 66 0 := ⟨by omega, by omega, rfl, fun i h => by rw [Nat.zero_testBit] at h; cases h⟩
theorem fil_end {l e : Nat} (h : Ok l e) (hf : Fil l e 67) : l = 66 ∧ e = 0 := ext h ok_66 (fun m => by
  rw [hf]
  rcases Nat.lt_or_ge 66 m with h1 | h1
  · rw [has_high h1, Nat.zero_testBit, decide_eq_false (by omega)]
  · rcases Nat.eq_zero_or_pos m with rfl | h2
    · rfl
    · rw [has_low (by omega) h1, decide_eq_true (by omega)])
theorem fil_begin : Fil 2 9223372036854775808 3 := by
  intro m
  rcases Nat.lt_or_ge 2 m with h1 | h1
  · rw [has_high h1]
    have e1 : (9223372036854775808 : Nat) = 2 ^ 63 := by decide
    rw [e1, Nat.testBit_two_pow, Bool.eq_iff_iff]
    simp only [decide_eq_true_eq]
    omega
  · rcases Nat.eq_zero_or_pos m with rfl | h2
    · rfl
    · rw [has_low (by omega) h1, decide_eq_true (by omega)]
end Wd

theorem meet_none (w : World) (n : Int) :
    Calls Tryd.prog 8 #[.pointer none, .int .u32 n] w fun x w' => x = .returned (.int .i64 0) ∧ w' = w := by
  go_enter Tryd.func8, Tryd.ntmps8
  go_wp2
  go_ret
  exact ⟨rfl, rfl⟩
theorem WinI.meet_at {w W : World} {b l e n c l' e' : Nat} {ni ci : Int} (h : WinI w b l e W) (hT : Tab w) (hn : n ≤ 4294967295) (hc : Wd.code l e n = c) (h1 : Wd.nl l e n = l') (h2 : Wd.ne l e n = e') (hni : (n : Int) = ni) (hci : (c : Int) = ci) :
    Calls Tryd.prog 8 #[.pointer (some ⟨b, 0, none⟩), .int .u32 ni] W fun x w' => x = .returned (.int .i64 ci) ∧ WinI w b l' e' w' := by
  subst hc h1 h2 hni hci
  refine (h.meet_c hT hn).mono ?_
  rintro x w' ⟨rfl, h3, _⟩
  exact ⟨rfl, h3⟩
theorem WinI.has_at {w W : World} {b l e n : Nat} {ni : Int} {c : Bool} (h : WinI w b l e W) (hn : n ≤ 4294967295) (hc : Wd.has l e n = c) (hni : (n : Int) = ni) :
    Calls Tryd.prog 17 #[.pointer (some ⟨b, 0, none⟩), .int .u32 ni] W fun x w' => x = .returned (.bool c) ∧ WinI w b l e w' := by
  subst hc hni
  refine (has_any h.win h.ok.he hn).mono ?_
  rintro x w' ⟨rfl, k, rfl⟩
  exact ⟨rfl, h.still ⟨rfl, rfl, rfl, Nat.le_refl _, fun _ _ => rfl⟩⟩
theorem row_zero {w : World} {B : Nat} {v : Value} {e : TypeId} {s : Nat} {xs : List Value} (h : w.ownsRow B e s v 0 xs) : ∃ a c, v = .slice a 0 c := by
  rcases h.2 with ⟨rfl, _⟩ | ⟨g, cap, cur, rfl, _⟩
  · exact ⟨_, _, rfl⟩
  · exact ⟨_, _, rfl⟩

set_option maxHeartbeats 2000000 in
theorem names_any {w : World} (hT : Tab w) : Calls Tryd.prog 4 #[] w fun x w' => x = .returned (.bool true) ∧ Below w.heap.size w w' := by
  have hz : w.heap.size ≤ w.heap.size := Nat.le_refl _
  obtain ⟨w1, hw1⟩ : ∃ w1, w.alloc (.cells #[.int .u32 0, .int .u64 0] 27) = w1 := ⟨_, rfl⟩
  have h1 : WinI w w.heap.size 0 0 w1 := ⟨by rw [← hw1]; exact heap_alloc_new w _, Wd.ok_zero, by rw [← hw1]; exact (Below.refl _ w).alloc (Nat.le_refl _) _, hz⟩
  have HT := Lib.hid hT
  have C1 := Lib.hid (h1.meet_at (ni := 2) (ci := 1) HT.out (n := 2) (c := 1) (l' := 0) (e' := 2) (by omega) (by decide +kernel) (by decide +kernel) (by decide +kernel) rfl rfl)
  clear h1 hT hz
  go_enter Tryd.func4, Tryd.ntmps4
  go_wp2_with fail
  refine C1.out.mono ?_
  rintro x w2 ⟨rfl, h2⟩
  have C2 := Lib.hid (h2.meet_at (ni := 1) (ci := 1) HT.out (n := 1) (c := 1) (l' := 2) (e' := 0) (by omega) (by decide +kernel) (by decide +kernel) (by decide +kernel) rfl rfl)
  clear h2 C1
  go_wp2_with fail
  refine C2.out.mono ?_
  rintro x w3 ⟨rfl, h3⟩
  have C3 := Lib.hid (h3.meet_at (ni := 2) (ci := 2) HT.out (n := 2) (c := 2) (l' := 2) (e' := 0) (by omega) (by decide +kernel) (by decide +kernel) (by decide +kernel) rfl rfl)
  clear h3 C2
  go_wp2_with fail
  refine C3.out.mono ?_
  rintro x w4 ⟨rfl, h4⟩
  have C4 : Hid (Calls Tryd.prog 14 #[.pointer (some ⟨w.heap.size, 0, none⟩)] w4 fun x w' => x = .returned (.int .u32 2) ∧ w' = w4) := last_any h4.win
  have C5 := Lib.hid (h4.meet_at (ni := 67) (ci := 3) HT.out (n := 67) (c := 3) (l' := 2) (e' := 0) (by omega) (by decide +kernel) (by decide +kernel) (by decide +kernel) rfl rfl)
  clear h4 C3
  go_wp2_with fail
  refine C4.out.mono ?_
  rintro x w5 ⟨rfl, hw5⟩
  rw [hw5]
  clear hw5 w5 C4
  go_wp2_with fail
  refine C5.out.mono ?_
  rintro x w5 ⟨rfl, h5⟩
  have C6 := Lib.hid (h5.meet_at (ni := 66) (ci := 1) HT.out (n := 66) (c := 1) (l' := 2) (e' := 9223372036854775808) (by omega) (by decide +kernel) (by decide +kernel) (by decide +kernel) rfl rfl)
  clear h5 C5
  go_wp2_with fail
  refine C6.out.mono ?_
  rintro x w6 ⟨rfl, h6⟩
  have C7 : Hid (Calls Tryd.prog 11 #[.pointer (some ⟨w.heap.size, 0, none⟩)] w6 fun x w' => x = .returned (.tuple #[.int .u32 3, .bool true]) ∧ w' = w6) := next_any h6.win (by omega)
  have C8 := Lib.hid (h6.meet_at (ni := 0) (ci := 0) HT.out (n := 0) (c := 0) (l' := 2) (e' := 9223372036854775808) (by omega) (by decide +kernel) (by decide +kernel) (by decide +kernel) rfl rfl)
  clear h6 C6
  go_wp2_with fail
  refine C7.out.mono ?_
  rintro x w7 ⟨rfl, hw7⟩
  rw [hw7]
  clear hw7 w7 C7
  go_wp2_with fail
  refine C8.out.mono ?_
  rintro x w8 ⟨rfl, h8⟩
  have C9 := Lib.hid (h8.has_at (ni := 0) (c := false) (n := 0) (by omega) (by decide +kernel) rfl)
  clear h8 C8
  go_wp2_with fail
  refine C9.out.mono ?_
  rintro x w9 ⟨rfl, h9⟩
  have C10 := Lib.hid (h9.has_at (ni := 67) (c := false) (n := 67) (by omega) (by decide +kernel) rfl)
  clear h9 C9
  go_wp2_with fail
  refine C10.out.mono ?_
  rintro x w10 ⟨rfl, h10⟩
  have C11 := Lib.hid (h10.has_at (ni := 66) (c := true) (n := 66) (by omega) (by decide +kernel) rfl)
  clear h10 C10
  go_wp2_with fail
  refine C11.out.mono ?_
  rintro x w11 ⟨rfl, h11⟩
  have C12 := Lib.hid (h11.meet_at (ni := 4294967295) (ci := 3) HT.out (n := 4294967295) (c := 3) (l' := 2) (e' := 9223372036854775808) (by omega) (by decide +kernel) (by decide +kernel) (by decide +kernel) rfl rfl)
  clear h11 C11
  go_wp2_with fail
  refine C12.out.mono ?_
  rintro x w12 ⟨rfl, h12⟩
  have HS : Hid (∃ n l e : Nat, 3 ≤ n ∧ n ≤ 67 ∧ (Value.int .u32 3) = .int .u32 (n : Int) ∧ Wd.Fil l e n ∧ WinI w w.heap.size l e w12) := ⟨3, 2, _, Nat.le_refl _, by omega, rfl, Wd.fil_begin, h12⟩
  clear h12 C12
  go_wp2
  go_loopw [10] (fun i wr => ∃ n l e : Nat, 3 ≤ n ∧ n ≤ 67 ∧ i = .int .u32 (n : Int) ∧ Wd.Fil l e n ∧ WinI w w.heap.size l e wr) (fun i _ => 67 - (intOf i).toNat)
  case atStart => exact HS.out
  case round =>
    obtain ⟨n, l, e, hn3, hn, rfl, hF, hI⟩ := hrel
    rename World => V
    clear HS hw1
    by_cases h67 : n < 67
    · have d1 : decide ((n : Int) ≤ 66) = true := by simp; omega
      have q1 : IntKind.u32.wrap ((n : Int) + 1) = (n : Int) + 1 := u32_in (by omega) (by omega)
      have HM := Lib.hid (hI.meet_c HT.out (n := n) (by omega))
      have HN := Lib.hid (And.intro hn3 h67)
      have HFF := Lib.hid (hF.step hI.ok hn3 (by omega))
      clear hI hn hn3 h67 hF
      go_wp2_with fail
      refine HM.out.mono ?_
      rintro x V2 ⟨rfl, hI2, _⟩
      have HX : Hid (∃ n' l e : Nat, 3 ≤ n' ∧ n' ≤ 67 ∧ (Value.int .u32 ((n : Int) + 1)) = .int .u32 (n' : Int) ∧ Wd.Fil l e n' ∧ WinI w w.heap.size l e V2) := ⟨n + 1, _, _, by have := HN.out; omega, by have := HN.out; omega, by push_cast; rfl, HFF.out, hI2⟩
      clear hI2 HM
      go_wp2
      exact ⟨HX.out, by simp [intOf]; have := HN.out; omega⟩
    · obtain rfl : n = 67 := by omega
      obtain ⟨rfl, rfl⟩ := Wd.fil_end hI.ok hF
      have D1 : Hid (Calls Tryd.prog 14 #[.pointer (some ⟨w.heap.size, 0, none⟩)] V fun x w' => x = .returned (.int .u32 66) ∧ w' = V) := last_any hI.win
      have D2 := Lib.hid (early_any hI.win hI.ok)
      have HI := Lib.hid hI
      have hE : Wd.early 66 0 = [] := by decide +kernel
      have hM : Wd.miss 66 0 = [] := by decide +kernel
      rw [hE] at D2
      clear hI hn hn3 h67 hF hE
      go_wp2_with fail
      refine D1.out.mono ?_
      rintro x V2 ⟨rfl, hV2⟩
      rw [hV2]
      clear hV2 V2 D1
      go_wp2_with fail
      refine D2.out.mono ?_
      rintro x V2 ⟨v, rfl, ho, hb2⟩
      obtain ⟨a1, c1, rfl⟩ := row_zero ho
      have hI2 := HI.out.still hb2
      have D3 := Lib.hid (missing_any hI2.win hI2.ok)
      rw [hM] at D3
      have HI2 := Lib.hid hI2
      clear ho hb2 hI2 D2 hM HI
      go_wp2_with fail
      refine D3.out.mono ?_
      rintro x V3 ⟨v, rfl, ho, hb3⟩
      obtain ⟨a2, c2, rfl⟩ := row_zero ho
      have hI3 := HI2.out.still hb3
      have D4 := Lib.hid (next_none V3)
      have D5 := Lib.hid (alive_any (hI3.tab HT.out))
      have HI3 := Lib.hid hI3
      clear ho hb3 hI3 D3 HI2
      go_wp2_with fail
      refine D4.out.mono ?_
      rintro x V4 ⟨rfl, hV4⟩
      rw [hV4]
      clear hV4 V4 D4
      go_wp2_with fail
      refine D5.out.mono ?_
      rintro x V4 ⟨rfl, hb4⟩
      have HB4 := Lib.hid (HI3.out.still hb4).below
      have D6 := Lib.hid (meet_none V4 1)
      have D7 := Lib.hid (has_none V4 1)
      have D8 := Lib.hid (last_none V4)
      have D9 := Lib.hid (early_none V4)
      clear hb4 D5 HI3
      go_wp2_with fail
      refine D6.out.mono ?_
      rintro x V5 ⟨rfl, hV5⟩
      rw [hV5]
      clear hV5 V5 D6
      go_wp2_with fail
      refine D7.out.mono ?_
      rintro x V5 ⟨rfl, hV5⟩
      rw [hV5]
      clear hV5 V5 D7
      go_wp2_with fail
      refine D8.out.mono ?_
      rintro x V5 ⟨rfl, hV5⟩
      rw [hV5]
      clear hV5 V5 D8
      go_wp2_with fail
      refine D9.out.mono ?_
      rintro x V5 ⟨v, rfl, ho, hb5⟩
      obtain ⟨a3, c3, rfl⟩ := row_zero ho
      have HB5 := Lib.hid (HB4.out.trans (hb5.mono HB4.out.size))
      have D10 := Lib.hid (missing_none V5)
      clear ho hb5 D9
      go_wp2_with fail
      refine D10.out.mono ?_
      rintro x V6 ⟨v, rfl, ho, hb6⟩
      obtain ⟨a4, c4, rfl⟩ := row_zero ho
      have HB6 := Lib.hid (HB5.out.trans (hb6.mono HB5.out.size))
      clear ho hb6 D10
      go_wp2
      go_ret
      exact ⟨rfl, HB6.out⟩
end Go.Proofs.YtcbgadjnheagmaaDoor
