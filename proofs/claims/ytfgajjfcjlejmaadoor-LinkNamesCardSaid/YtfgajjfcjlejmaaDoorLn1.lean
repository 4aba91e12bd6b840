/-
  The law LinkNames.
-/
import Derived.Test.YtfgajjfcjlejmaaDoorLm9
namespace Go.Proofs.YtfgajjfcjlejmaaDoor
set_option maxRecDepth 100000
set_option linter.unusedSimpArgs false
open Go Go.RowKit Wr
attribute [local go_sem] Oper.semAt_some

theorem ln_room1 {w W : World} {a : Nat} (hL : Lay w) (h : OneL w W a (Lk.sM 16)) : Calls Tryd.prog 14 #[.pointer (some ⟨a, 0, none⟩), .int .u64 0, frV 1] W fun e w' => e = .returned (.tuple #[zPk, .int .i64 111]) ∧ Below W.heap.size W w' := ln_room (n := 1) hL (by decide) h
theorem bx_al (W : World) (x : Obj) : Below W.heap.size W (W.alloc x) := (Below.refl _ W).alloc (Nat.le_refl _) x

set_option maxHeartbeats 8000000 in
theorem lnames_any {w : World} (hL : Lay w) : Calls Tryd.prog 4 #[] w fun e w' => e = .returned (.bool true) ∧ Below w.heap.size w w' := by
  obtain ⟨P, hP⟩ : ∃ P : Ending → World → Prop, P = fun e w' => e = .returned (.bool true) ∧ Below w.heap.size w w' := ⟨_, rfl⟩
  have HP : Hid (∀ W, Below w.heap.size w W → P (.returned (.bool true)) W) := by rw [hP]; exact fun W h => ⟨rfl, h⟩
  rw [← hP]
  clear hP
  have HL := Lib.hid hL
  have KT := Lib.hid (two_any hL)
  have KA : Hid (∀ W, Below w.heap.size w W → Calls Tryd.prog 28 #[] W fun e w' => e = .returned (.bool true) ∧ Below W.heap.size W w') := fun W h => al_any (hL.below h)
  clear hL
  go_enter Tryd.func4, Tryd.ntmps4
  go_wp2_with fail
  refine KT.out.mono ?_
  rintro e w1 ⟨a, b, rfl, T1, Sa1, Sb1, hp⟩
  have H1 : Hid (OneL w w1 a (Lk.sM 0)) := ⟨T1, Sa1, 1, hp.la, hp.bl, hp.ge, by decide⟩
  have L1 : Hid (Lay w1) := HL.out.below hp.bl
  clear hp KT
  go_wp2_with fail
  refine (two_rule _).mono ?_
  rintro e w2 ⟨rfl, hb⟩
  have H2 : Hid (OneL w w2 a (Lk.sM 0)) := H1.out.below hb
  have L2 : Hid (Lay w2) := L1.out.below hb
  clear hb H1 L1
  go_wp2_with fail
  refine (ln_new _).mono ?_
  rintro e w3 ⟨c, rfl, hb, Tc, Sc, hc⟩
  have H3 : Hid (OneL w w3 a (Lk.sM 0)) := H2.out.below hb
  have L3 : Hid (Lay w3) := L2.out.below hb
  have HC := Lib.hid hc
  clear hb hc H2 L2
  go_wp2_with fail
  refine (al_free _ 1).mono ?_
  rintro e w4 ⟨rfl, hb⟩
  have H4 : Hid (OneL w w4 a (Lk.sM 0)) := H3.out.below hb
  have L4 : Hid (Lay w4) := L3.out.below hb
  have HC4 := Lib.hid (HC.out.below hb)
  clear hb H3 L3 HC
  go_wp2_with fail
  refine (ln_e1 L4.out HC4.out).mono ?_
  rintro e w5 ⟨rfl, hb⟩
  have H5 : Hid (OneL w (w5.alloc (.cells #[.int .i64 0, .int .i64 0, .int .u32 0, .int .u32 0, .int .u32 0, .int .u32 0, .int .i64 0, .int .i64 0, .int .u32 0, .int .u64 0, .int .i64 0, .int .i64 0, .int .i64 0, .int .i64 0, .slice none 0 0] 39)) a (Lk.sM 0)) := (H4.out.below hb).below (bx_al _ _)
  clear hb H4 L4 HC4
  go_wp2_with fail
  refine (ln_e2 HL.out H5.out).mono ?_
  rintro e w6 ⟨rfl, hb⟩
  have H6 : Hid (OneL w (w6.alloc (.cells #[.int .i64 0, .int .i64 0, .int .u32 0, .int .u32 0, .int .u32 0, .int .u32 0, .int .i64 0, .int .i64 0, .int .u32 0, .int .u64 0, .int .i64 0, .int .i64 0, .int .i64 0, .int .i64 0, .slice none 0 0] 39)) a (Lk.sM 0)) := (H5.out.below hb).below (bx_al _ _)
  clear hb H5
  have HI0 : Hid (∀ W, OneL w W a (Lk.sM 0) → ∃ k : Nat, k ≤ 20 ∧ (Value.int .i64 0) = .int .i64 (k : Int) ∧ (Value.int .i64 0) = .int .i64 ((min k 16 : Nat) : Int) ∧ OneL w W a (Lk.sM (min k 16))) := fun W h => ⟨0, by decide, rfl, rfl, h⟩
  go_wp2_with fail
  go_loopw [10, 11] (fun n i wr => ∃ k : Nat, k ≤ 20 ∧ i = .int .i64 (k : Int) ∧ n = .int .i64 ((min k 16 : Nat) : Int) ∧ OneL w wr a (Lk.sM (min k 16))) (fun _ i _ => 20 - (intOf i).toNat)
  case atStart => exact HI0.out _ H6.out
  case round =>
    obtain ⟨k, hk, rfl, rfl, hI⟩ := hrel
    rename World => W
    have HI := Lib.hid hI
    clear hI H6 HI0
    by_cases hlt : k < 20
    · have hkw : IntKind.i64.wrap ((k : Int) + 1) = (k : Int) + 1 := IntWalk.i64_in _ (by omega)
      have HLT := Lib.hid hlt
      by_cases h16 : k < 16
      · have hm : min k 16 = k := by omega
        have hm1 : min (k + 1) 16 = k + 1 := by omega
        have H16 := Lib.hid h16
        rw [hm] at HI ⊢
        have HN : Hid (∀ W', OneL w W' a (Lk.sM (k + 1)) → ∃ k' : Nat, k' ≤ 20 ∧ (Value.int .i64 ((k : Int) + 1)) = .int .i64 (k' : Int) ∧ (Value.int .i64 ((k : Int) + 1)) = .int .i64 ((min k' 16 : Nat) : Int) ∧ OneL w W' a (Lk.sM (min k' 16))) := fun W' h => ⟨k + 1, HLT.out, by push_cast; rfl, by rw [hm1]; push_cast; rfl, by rw [hm1]; exact h⟩
        clear hm hm1 hk h16
        go_wp2_with fail
        refine (al_free _ _).mono ?_
        rintro e w8 ⟨rfl, hb⟩
        have H8 := Lib.hid (HI.out.below hb)
        clear hb HI
        go_wp2_with fail
        refine (ln_send HL.out H16.out H8.out).mono ?_
        rintro e w9 ⟨A9, c9, rfl, h9⟩
        have H9 : Hid (OneL w (w9.alloc (.cells #[.int .i64 1, .int .i64 2, .int .u32 1, .int .u32 5, .int .u32 ((k : Int) + 1), .int .u32 0, .int .i64 3, .int .i64 k, .int .u32 1, .int .u64 0, .int .i64 0, .int .i64 0, .int .i64 0, .int .i64 0, .slice A9 0 c9] 39)) a (Lk.sM (k + 1))) := h9.below (bx_al _ _)
        clear h9 H8
        go_wp2
        exact ⟨HN.out _ H9.out, by simp only [intOf]; have := HLT.out; omega⟩
      · have hm : min k 16 = 16 := by omega
        have hm1 : min (k + 1) 16 = 16 := by omega
        rw [hm] at HI ⊢
        have hk20 : k < 1000 := by omega
        have HK20 := Lib.hid hk20
        have HN : Hid (∀ W', OneL w W' a (Lk.sM 16) → ∃ k' : Nat, k' ≤ 20 ∧ (Value.int .i64 ((k : Int) + 1)) = .int .i64 (k' : Int) ∧ (Value.int .i64 ((16 : Nat) : Int)) = .int .i64 ((min k' 16 : Nat) : Int) ∧ OneL w W' a (Lk.sM (min k' 16))) := fun W' h => ⟨k + 1, HLT.out, by push_cast; rfl, by rw [hm1], by rw [hm1]; exact h⟩
        clear hm hm1 hk h16 hk20
        go_wp2_with fail
        refine (al_free _ _).mono ?_
        rintro e w8 ⟨rfl, hb⟩
        have H8 := Lib.hid (HI.out.below hb)
        clear hb HI
        go_wp2_with fail
        refine (ln_room HL.out HK20.out H8.out).mono ?_
        rintro e w9 ⟨rfl, hb⟩
        have H9 : Hid (OneL w (w9.alloc (.cells #[.int .i64 0, .int .i64 0, .int .u32 0, .int .u32 0, .int .u32 0, .int .u32 0, .int .i64 0, .int .i64 0, .int .u32 0, .int .u64 0, .int .i64 0, .int .i64 0, .int .i64 0, .int .i64 0, .slice none 0 0] 39)) a (Lk.sM 16)) := (H8.out.below hb).below (bx_al _ _)
        clear hb H8
        go_wp2
        exact ⟨HN.out _ H9.out, by simp only [intOf]; have := HLT.out; omega⟩
    · obtain rfl : k = 20 := by omega
      clear hlt hk
      have HI' : Hid (OneL w W a (Lk.sM 16)) := HI.out
      clear HI
      go_wp2_with fail
      refine (al_free _ 1).mono ?_
      rintro e w10 ⟨rfl, hb⟩
      have H10 := Lib.hid (HI'.out.below hb)
      clear hb HI'
      go_wp2_with fail
      refine (ln_room1 HL.out H10.out).mono ?_
      rintro e w11 ⟨rfl, hb⟩
      have H11 : Hid (OneL w (w11.alloc (.cells #[.int .i64 0, .int .i64 0, .int .u32 0, .int .u32 0, .int .u32 0, .int .u32 0, .int .i64 0, .int .i64 0, .int .u32 0, .int .u64 0, .int .i64 0, .int .i64 0, .int .i64 0, .int .i64 0, .slice none 0 0] 39)) a (Lk.sM 16)) := (H10.out.below hb).below (bx_al _ _)
      clear hb H10
      go_wp2_with fail
      refine (ln_tick3 H11.out).mono ?_
      rintro e w12 ⟨A12, c12, rfl, h12⟩
      have H12 := Lib.hid h12
      clear h12 H11
      go_wp2_with fail
      refine (ln_tick4 H12.out).mono ?_
      rintro e w13 ⟨g, cg, rfl, N, hN, h13⟩
      have H13 := Lib.hid h13
      have HN2 := Lib.hid hN
      clear h13 hN H12
      go_wp2_with fail
      refine (ln_take HL.out HN2.out H13.out).mono ?_
      rintro e w14 ⟨Au, cu, Ab, cb, rfl, M, h14⟩
      have H14 : Hid (OneG w (w14.alloc (.cells #[.slice Au 0 cu, .slice Ab 0 cb, .bool false] 52)) a g M Lk.sT) := h14.below (bx_al _ _)
      clear h14 H13 HN2
      go_wp2_with fail
      refine (two_rule _).mono ?_
      rintro e w15 ⟨rfl, hb⟩
      have H15 := Lib.hid (H14.out.below hb)
      clear hb H14
      go_wp2_with fail
      refine (ln_bad1 _).mono ?_
      rintro e w16 ⟨rfl, hb⟩
      have H16 := Lib.hid (H15.out.below hb)
      clear hb H15
      go_wp2_with fail
      refine (two_rule _).mono ?_
      rintro e w17 ⟨rfl, hb⟩
      have H17 := Lib.hid (H16.out.below hb)
      clear hb H16
      go_wp2_with fail
      refine (ln_bad2 _).mono ?_
      rintro e w18 ⟨rfl, hb⟩
      have H18 := Lib.hid (H17.out.below hb)
      clear hb H17
      go_wp2_with fail
      refine (ln_rule _).mono ?_
      rintro e w19 ⟨rfl, hb⟩
      have H19 := Lib.hid (H18.out.below hb)
      clear hb H18
      go_wp2_with fail
      refine (al_free _ 1).mono ?_
      rintro e w20 ⟨rfl, hb⟩
      have H20 := Lib.hid (H19.out.below hb)
      clear hb H19
      go_wp2_with fail
      refine (ln_none _).mono ?_
      rintro e w21 ⟨rfl, hb⟩
      have H21 : Hid (OneG w (w21.alloc (.cells #[.int .i64 0, .int .i64 0, .int .u32 0, .int .u32 0, .int .u32 0, .int .u32 0, .int .i64 0, .int .i64 0, .int .u32 0, .int .u64 0, .int .i64 0, .int .i64 0, .int .i64 0, .int .i64 0, .slice none 0 0] 39)) a g M Lk.sT) := (H20.out.below hb).below (bx_al _ _)
      clear hb H20
      go_wp2_with fail
      refine (ln_rings H21.out).mono ?_
      rintro e w22 ⟨rfl, h22⟩
      have H22 := Lib.hid h22
      clear h22 H21
      go_wp2_with fail
      refine (KA.out _ H22.out.2.choose_spec.choose_spec.2.1).mono ?_
      rintro e w23 ⟨rfl, hb⟩
      have h23 := H22.out.below hb
      have f0 := h23.1
      have HB23 : Hid (Below w.heap.size w w23) := h23.2.choose_spec.choose_spec.2.1
      clear h23 hb H22 KA
      go_wp2_with (first
        | ((with_reducible refine (known_none _).mono ?_); rintro e w24 ⟨rfl, hw24⟩; rw [hw24]; clear hw24))
      refine (tick_none _ 1).mono ?_
      rintro e w25 ⟨rfl, hb⟩
      have HF := Lib.hid (HP.out w25 (HB23.out.trans (hb.mono HB23.out.size)))
      clear hb HB23
      go_wp2
      first | exact HF.out | (go_ret; exact HF.out)
end Go.Proofs.YtfgajjfcjlejmaaDoor
