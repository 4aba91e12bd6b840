/-
  A number is met.
-/
import Derived.Test.YtfgajjfcjlejmaaDoorLw2
import Derived.LoopIn
import Derived.Laws.Bits64
import Derived.IntWalk
namespace Go.Proofs.YtfgajjfcjlejmaaDoor
set_option maxRecDepth 100000
set_option linter.unusedSimpArgs false
open Go Go.RowKit

theorem or_bit {e l n : Nat} (he : e < 18446744073709551616) (h : n ≤ l + 64) (h1 : l < n) : bits BinOp.or IntKind.u64 (e : Int) (bitN l n : Nat) = (Wd.put l e n : Nat) := by
  have h2 : 2 ^ (n - l - 1) < 2 ^ 64 := Nat.pow_lt_pow_right (by omega) (by omega)
  unfold bitN
  rw [if_pos (by omega), bits_or_u64_nat e _ he (by simpa using h2)]
  rfl
theorem xor_nat {q : Nat} (h : q < 18446744073709551616) : 18446744073709551615 ^^^ q = 18446744073709551615 - q := by
  refine Nat.eq_of_testBit_eq fun i => ?_
  rw [Nat.testBit_xor, Wd.compl_bit h]
  have : Nat.testBit 18446744073709551615 i = decide (i < 64) := by
    have := Wd.compl_bit (e := 0) (by omega) i
    simpa using this
  rw [this]
  by_cases hi : i < 64
  · simp [hi]
  · simp [hi, Wd.bit_hi h (by omega : 64 ≤ i)]
theorem xor_u64 {q : Nat} (h : q < 18446744073709551616) : bits BinOp.xor IntKind.u64 IntKind.u64.max (q : Int) = ((18446744073709551615 - q : Nat) : Int) := by
  have h1 : IntKind.u64.max = ((18446744073709551615 : Nat) : Int) := rfl
  rw [h1, bits_xor_u64_nat _ q (by omega) h, xor_nat h]
/-- What Meet leaves. -/
def MeetP (w : World) (b : Nat) (f : Nat → Value) (l e n : Nat) (x : Ending) (w' : World) : Prop :=
  x = .returned (.int .i64 (Wd.code l e n : Nat)) ∧ WinAt w' b f (Wd.nl l e n) (Wd.ne l e n) ∧ Kept (fun k => k = b) w w'

set_option maxHeartbeats 1000000 in
theorem meet_any {w : World} {b : Nat} {f : Nat → Value} {l e n : Nat} (h : WinAt w b f l e) (hO : Wd.Ok l e) (hn : n ≤ 4294967295) (hT : TabZ w) (hb : b ≠ 2) :
    Calls Tryd.prog 72 #[.pointer (some ⟨b, 8, none⟩), .int .u32 (n : Nat)] w (MeetP w b f l e n) := by
  obtain ⟨P, hP⟩ : ∃ P : Ending → World → Prop, P = MeetP w b f l e n := ⟨_, rfl⟩
  rw [← hP]
  have HQ : Hid (∀ w', WinAt w' b f (Wd.nl l e n) (Wd.ne l e n) → Kept (fun k => k = b) w w' → P (.returned (.int .i64 (Wd.code l e n : Nat))) w') := by rw [hP]; exact fun w' h1 h2 => ⟨rfl, h1, h2⟩
  clear hP
  obtain ⟨⟨c0, c1⟩, f0, f1⟩ := h.two
  have hHas := Lib.hid (whas_any h hO.he hn)
  by_cases hc : Wd.code l e n = 1
  · obtain ⟨h0, h1, h2, h3⟩ := Wd.code_one hc
    have e0 : ((n : Int) == 0) = false := by
      have : ¬ (n : Int) = 0 := by omega
      simpa using this
    have w1 : IntKind.u32.wrap ((n : Int) - (l : Int)) = ((n - l : Nat) : Int) := by rw [u32_in (by omega) (by omega)]; omega
    have e2 : decide (64 < n - l) = false := by simp; omega
    have e2' : decide ((64 : Int) < ((n - l : Nat) : Int)) = false := by simp; omega
    rw [h1] at hHas
    have hor := or_bit hO.he h3 h2
    have HQ1 : Hid (∀ w', WinAt w' b f (l + Wd.run1 (Wd.put l e n)) (Wd.put l e n >>> Wd.run1 (Wd.put l e n)) → Kept (fun k => k = b) w w' → P (.returned (.int .i64 1)) w') := by
      have := HQ.out
      unfold Wd.nl Wd.ne at this
      rw [hc, if_pos rfl, if_pos rfl] at this
      exact this
    clear HQ
    have hsg : IntKind.u64.signed = false := rfl
    have hxo := xor_u64 (Wd.put_lt hO.he h3 h2)
    have hp := Wd.put_lt hO.he h3 h2
    have hpb := Wd.put_ok hO hn h2
    generalize hq : Wd.put l e n = q at *
    generalize hm : n - l = m at *
    go_enter Tryd.func72, Tryd.ntmps72
    go_wp2_with fail
    refine hHas.out.mono ?_
    rintro x w2 ⟨rfl, k, hw2⟩
    have h2w : WinAt w2 b f l e := by rw [hw2]; exact h
    have hk2 : Kept (fun k => k = b) w w2 := by rw [hw2]; exact (Kept.refl _ w).drewN k
    clear hw2 c0 c1 f0 f1
    obtain ⟨⟨c0, c1⟩, f0, f1⟩ := h2w.two
    have HB := Lib.hid (fun w3 (hh : w3 = w2.drew) => bit_any (w := w3) (b := b) (f := f) (l := l) (e := e) (n := n) (by rw [hh]; exact h2w) (by omega) hn)
    go_wp2_with fail
    refine wp_region_still_tail 10 (by kernel_rfl) (by kernel_rfl) ?_
    simp only [List.take_succ_cons, List.take_zero, List.drop_succ_cons, List.drop_zero]
    repeat (first | still_step | still_call (HB.out _ rfl))
    try refine wpStill_nil ?_
    change wpList _ _ _ _ _ w2.drew
    go_wp2_with fail
    have hT2 : TabZ w2 := hT.kept hk2 (fun e => hb e.symm)
    obtain ⟨w3, hw3⟩ : ∃ w3, w2.setCell ⟨b, 9, none⟩ (.int .u64 (q : Nat)) = w3 := ⟨_, rfl⟩
    have hz : (w2.setCell ⟨b, 9, none⟩ (.int .u64 (q : Nat))).drew = w3.drew := by rw [hw3]
    have hW3 : WinAt w3.drew b f l q := by rw [← hw3]; exact blk_set h2w 9 _
    have hK3 : Kept (fun k => k = b) w w3.drew := by rw [← hw3]; exact (hk2.setCell (p := ⟨b, 9, none⟩) (.inl rfl) _).drew
    have hT3 : TabZ w3.drew := hT.kept hK3 (fun e => hb e.symm)
    have HTZ := Lib.hid (tz_any hT3 (x := 18446744073709551615 - q) (by omega))
    rw [hz]
    have hr : (Go.Lib.ctz 64 (18446744073709551615 - q)) = Wd.run1 q := rfl
    rw [hr] at HTZ
    have HM : Hid (∀ j, j ≤ Wd.run1 q → l + j ≤ 4294967295 ∧ q >>> j < 18446744073709551616) := fun j hj => Wd.mid hp hpb hO.hl hj
    have hr64 := (Wd.run1_spec hp).1
    generalize Wd.run1 q = r at *
    clear hr hz hw3 h2w hk2 hT2 c0 c1 f0 f1 HB h hHas hc h0 h1 hO hn hT hb h2 h3 hor hxo hp hpb hq
    generalize w3.drew = w4 at *
    refine HTZ.out.mono ?_
    rintro x w5 ⟨rfl, hw5⟩
    rw [hw5]
    clear hw5 HTZ
    have HS : Hid (∃ j : Nat, j ≤ r ∧ (Value.int .i64 0) = .int .i64 (j : Int) ∧ WinAt w4 b f (l + j) (q >>> j) ∧ Kept (fun k => k = b) w w4) := ⟨0, by omega, rfl, hW3, hK3⟩
    clear hW3 hK3
    go_wp2
    go_loopw [40] (fun i wr => ∃ j : Nat, j ≤ r ∧ i = .int .i64 (j : Int) ∧ WinAt wr b f (l + j) (q >>> j) ∧ Kept (fun k => k = b) w wr) (fun i _ => r - (intOf i).toNat)
    case atStart => exact HS.out
    case round =>
      obtain ⟨j, hj, rfl, hW, hK⟩ := hrel
      rename World => V
      by_cases hjr : j < r
      · obtain ⟨⟨c0, c1⟩, f0, f1⟩ := hW.two
        have hb1 := HM.out (j + 1) hjr
        have hb0 := HM.out j hj
        have w4 : IntKind.u32.wrap (((l + j : Nat) : Int) + 1) = ((l + (j + 1) : Nat) : Int) := by rw [u32_in (by omega) (by omega)]; omega
        have w5 : IntKind.i64.wrap ((j : Int) + 1) = (j : Int) + 1 := IntWalk.i64_in _ (by omega)
        have hsh : (q >>> (j + 1) : Nat) = (q >>> j) / 2 := by rw [Nat.shiftRight_succ]
        have HX : Hid (∃ i : Nat, i ≤ r ∧ (Value.int .i64 ((j : Int) + 1)) = .int .i64 (i : Int) ∧ WinAt ((V.setCell ⟨b, 8, none⟩ (.int .u32 ((l + (j + 1) : Nat) : Int))).setCell ⟨b, 9, none⟩ (.int .u64 (((q >>> j : Nat) : Int) / 2))) b f (l + i) (q >>> i) ∧ Kept (fun k => k = b) w ((V.setCell ⟨b, 8, none⟩ (.int .u32 ((l + (j + 1) : Nat) : Int))).setCell ⟨b, 9, none⟩ (.int .u64 (((q >>> j : Nat) : Int) / 2)))) := by
          refine ⟨j + 1, hjr, by push_cast; rfl, ?_, (hK.setCell (p := ⟨b, 8, none⟩) (.inl rfl) _).setCell (p := ⟨b, 9, none⟩) (.inl rfl) _⟩
          have e5 : ((q >>> j : Nat) : Int) / 2 = ((q >>> (j + 1) : Nat) : Int) := by rw [hsh]; push_cast; rfl
          rw [e5]
          exact blk_set (blk_set hW 8 _) 9 _
        have HJ := Lib.hid hjr
        clear hW hK hb1 hb0 hj hsh
        generalize q >>> j = x at *
        generalize l + j = u at *
        generalize l + (j + 1) = v at *
        go_wp2
        exact ⟨HX.out, by simp [intOf]; have := HJ.out; omega⟩
      · obtain rfl : j = r := by omega
        have HF := Lib.hid (HQ1.out V hW hK)
        clear hW hK hj
        go_wp2
        exact HF.out
  · by_cases h0 : n = 0
    · subst h0
      have HF := Lib.hid (HQ.out w (by rw [show Wd.nl l e 0 = l by unfold Wd.nl; rw [if_neg hc], show Wd.ne l e 0 = e by unfold Wd.ne; rw [if_neg hc]]; exact h) (Kept.refl _ _))
      have hcc : Wd.code l e 0 = 0 := rfl
      rw [hcc] at HF
      clear h hO hn hT hb hHas hc HQ
      go_enter Tryd.func72, Tryd.ntmps72
      go_wp2
      exact HF.out
    · have e0 : ((n : Int) == 0) = false := by
        have : ¬ (n : Int) = 0 := by omega
        simpa using this
      have HQ2 : Hid (∀ w', WinAt w' b f l e → Kept (fun k => k = b) w w' → P (.returned (.int .i64 (Wd.code l e n : Nat))) w') := by
        have := HQ.out
        rwa [show Wd.nl l e n = l by unfold Wd.nl; rw [if_neg hc], show Wd.ne l e n = e by unfold Wd.ne; rw [if_neg hc]] at this
      clear HQ
      by_cases h1 : Wd.has l e n = true
      · have hcc : Wd.code l e n = 2 := by unfold Wd.code; rw [if_neg h0, if_pos h1]
        rw [hcc] at HQ2
        rw [h1] at hHas
        clear hc hO hn hT hb h1 h0 hcc c0 c1 f0 f1
        go_enter Tryd.func72, Tryd.ntmps72
        go_wp2_with fail
        refine hHas.out.mono ?_
        rintro x w2 ⟨rfl, k, hw2⟩
        have h2w : WinAt w2 b f l e := by rw [hw2]; exact h
        have hk2 : Kept (fun k => k = b) w w2 := by rw [hw2]; exact (Kept.refl _ w).drewN k
        have HF := Lib.hid (HQ2.out w2 h2w hk2)
        clear hw2 h2w hk2 h
        go_wp2
        exact HF.out
      · have h1' : Wd.has l e n = false := by simpa using h1
        have h2 : l + 64 < n := by
          apply Nat.lt_of_not_le
          intro h2
          apply hc
          unfold Wd.code
          rw [if_neg h0, if_neg h1, if_neg (by omega)]
        have hcc : Wd.code l e n = 3 := by unfold Wd.code; rw [if_neg h0, if_neg h1, if_pos h2]
        rw [hcc] at HQ2
        rw [h1'] at hHas
        have w1 : IntKind.u32.wrap ((n : Int) - (l : Int)) = ((n - l : Nat) : Int) := by rw [u32_in (by omega) (by omega)]; omega
        have e2 : decide (64 < n - l) = true := by simp; omega
        have e2' : decide ((64 : Int) < ((n - l : Nat) : Int)) = true := by simp; omega
        clear hc hO hn hT hb h1 h0 hcc c0 c1 f0 f1 h1' h2
        generalize n - l = m at *
        go_enter Tryd.func72, Tryd.ntmps72
        go_wp2_with fail
        refine hHas.out.mono ?_
        rintro x w2 ⟨rfl, k, hw2⟩
        have h2w : WinAt w2 b f l e := by rw [hw2]; exact h
        have hk2 : Kept (fun k => k = b) w w2 := by rw [hw2]; exact (Kept.refl _ w).drewN k
        have HF := Lib.hid (HQ2.out w2 h2w hk2)
        obtain ⟨⟨c0, c1⟩, f0, f1⟩ := h2w.two
        clear hw2 h2w hk2 h
        go_wp2
        exact HF.out
end Go.Proofs.YtfgajjfcjlejmaaDoor
