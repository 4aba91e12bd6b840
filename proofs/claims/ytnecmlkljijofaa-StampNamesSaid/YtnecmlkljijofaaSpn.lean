/-
  The law StampNames.
-/
import Derived.Test.YtnecmlkljijofaaSp7
namespace Go.Proofs.Ytnecmlkljijofaa
set_option maxRecDepth 100000
set_option linter.unusedSimpArgs false
open Go Go.RowKit Sp

theorem up_at {w : World} {o : Nat} {l : List Wt} (h : QAt w o l) (r q : Int) {b : Bool} {l' : List Wt} (h1 : upB l r q = b) (h2 : upL l r q = l') :
    Calls Try.prog 16 #[.pointer (some ⟨o, 0, none⟩), .int .i64 r, .int .i64 q] w fun e w' => e = .returned (.bool b) ∧ QAt w' o l' ∧ Kept (fun k => k = o) w w' := by
  refine (up_any (.inr ⟨o, rfl, h⟩) r q).mono ?_
  rintro e w' ⟨rfl, h3, h4⟩
  subst h1 h2
  rcases h3 with ⟨h3, _⟩ | ⟨o', h3, h5⟩
  · cases h3
  · cases h3
    exact ⟨rfl, h5, h4.mono (fun k _ hk => by obtain ⟨o2, e1, e2⟩ := hk; cases e1; exact e2)⟩
theorem cut_at {w : World} {o : Nat} {l : List Wt} (h : QAt w o l) (r : Int) {b : Bool} {l' : List Wt} (h1 : has l r = b) (h2 : cutL l r = l') :
    Calls Try.prog 18 #[.pointer (some ⟨o, 0, none⟩), .int .i64 r] w fun e w' => e = .returned (.bool b) ∧ QAt w' o l' ∧ Kept (fun k => k = o) w w' := by
  refine (cut_any (.inr ⟨o, rfl, h⟩) r).mono ?_
  rintro e w' ⟨rfl, h3, h4⟩
  subst h1 h2
  rcases h3 with ⟨h3, _⟩ | ⟨o', h3, h5⟩
  · cases h3
  · cases h3
    exact ⟨rfl, h5, h4.mono (fun k _ hk => by obtain ⟨o2, e1, e2⟩ := hk; cases e1; exact e2)⟩
theorem put_bad {w : World} {o : Nat} {l : List Wt} (h : QAt w o l) (y : Wt) (h1 : may y = false) :
    Calls Try.prog 14 #[.pointer (some ⟨o, 0, none⟩), .agg #[.int .i64 y.r, .int .u64 y.s, .int .i64 y.p]] w fun e w' => e = .returned (.tuple #[.bool false, .int .i64 2]) ∧ QAt w' o l ∧ Kept (fun k => k = o) w w' := by
  refine (put_any h y).mono ?_
  rintro e w' ⟨rfl, h4, h5⟩
  rw [h1] at h4
  simp only [Bool.false_eq_true, if_false] at h4
  exact ⟨by rw [h1]; rfl, h4, h5⟩
def lA : List Wt := [⟨1, 4, 6⟩, ⟨2, 9, 5⟩, ⟨3, 7, 0⟩]
def lB : List Wt := [⟨1, 4, 6⟩, ⟨3, 7, 6⟩, ⟨2, 9, 5⟩]
def lN (j : Nat) : List Wt := [⟨1, 4, 6⟩, ⟨2, 9, 5⟩] ++ (List.range j).map (fun i => ⟨((10 + i : Nat) : Int), 0, 0⟩)
def lC : List Wt := putL ⟨15, 0, 15⟩ (lN 6)
theorem lN_put : ∀ j, j < 6 → may ⟨((10 + j : Nat) : Int), 0, 0⟩ = true ∧ putB ⟨((10 + j : Nat) : Int), 0, 0⟩ (lN j) = true ∧ putL ⟨((10 + j : Nat) : Int), 0, 0⟩ (lN j) = lN (j + 1) := by decide

set_option maxHeartbeats 8000000 in
theorem names_any (w : World) : Calls Try.prog 5 #[] w fun e w' => e = .returned (.bool true) ∧ Below w.heap.size w w' := by
  have hEq : ∀ w, (binOp .eql 40 (.agg #[.int .i64 1, .int .u64 4, .int .i64 6]) (.agg #[.int .i64 1, .int .u64 4, .int .i64 6])).run Try.prog w = .ok (.bool true) w := fun w => by rw [run_eql_struct, eqWt]; rfl
  have H1 := Lib.hid (some_any w)
  go_enter Try.func5, Try.ntmps5
  go_wp2_with fail
  refine H1.out.mono ?_
  rintro e W1 ⟨rfl, q1, b1⟩
  have K1 := Lib.hid (show Kept (fun k => k = w.heap.size) w W1 from Kept.of_below b1 (Nat.le_refl _))
  clear b1 H1
  go_wp2_with fail
  refine (put_lit q1 ⟨1, 4, 6⟩ (b := true) (l' := lA) (by decide) (by decide) (by decide)).mono ?_
  rintro e W2 ⟨rfl, q2, k2⟩
  have K2 := Lib.hid (K1.out.trans k2 (fun _ _ h => h))
  clear q1 K1 k2
  go_wp2_with fail
  have H3 : Hid (Calls Try.prog 22 #[.pointer (some ⟨w.heap.size, 0, none⟩)] W2 fun e w' => e = .returned (.tuple #[.agg #[.int .i64 1, .int .u64 4, .int .i64 6], .bool true]) ∧ Below W2.heap.size W2 w') := first_any (.inr ⟨_, rfl, q2⟩)
  refine H3.out.mono ?_
  rintro e W3 ⟨rfl, b3⟩
  have q3 := q2.kept (still_of b3) id
  have K3 := Lib.hid (K2.out.trans (still_of b3) (fun _ _ h => h.elim))
  clear q2 K2 b3 H3
  go_wp2_with fail
  obtain ⟨W4, hW4, hb4, sW4⟩ : ∃ W4, W3.alloc (.cells #[.int .i64 1, .int .u64 4, .int .i64 6] 40) = W4 ∧ W4.heap[W3.heap.size]? = some (.cells #[.int .i64 1, .int .u64 4, .int .i64 6] 40 (0, 0)) ∧ Still W3 W4 := ⟨_, rfl, World.alloc_heap_new _ _, (Kept.refl _ _).alloc _⟩
  rw [hW4]
  have q4 := q3.kept sW4 id
  have K4 := Lib.hid (K3.out.trans sW4 (fun _ _ h => h.elim))
  have hne4 : ¬ W3.heap.size = w.heap.size := by have := q3.lt; omega
  clear hW4 q3 K3 sW4
  refine (up_at q4 3 6 (b := true) (l' := lB) (by decide) (by decide)).mono ?_
  rintro e W5 ⟨rfl, q5, k5⟩
  have K5 := Lib.hid (K4.out.trans k5 (fun _ _ h => h))
  have hb5 := (k5.block _ (blk_lt hb4) hne4).trans hb4
  have c0 : W5.cell? ⟨W3.heap.size, 0, none⟩ = some (.int .i64 1) := by rw [blk_cell hb5]; rfl
  have c1 : W5.cell? ⟨W3.heap.size, 1, none⟩ = some (.int .u64 4) := by rw [blk_cell hb5]; rfl
  have c2 : W5.cell? ⟨W3.heap.size, 2, none⟩ = some (.int .i64 6) := by rw [blk_cell hb5]; rfl
  clear hb4 hb5
  clear q4 K4 k5
  go_wp2_with fail
  clear c0 c1 c2
  have HR : Hid (Calls Try.prog 30 #[.pointer (some ⟨w.heap.size, 0, none⟩), .slice (some ⟨W5.heap.size, 0, none⟩) 3 3] (W5.alloc (.cells #[.int .i64 1, .int .i64 3, .int .i64 2] 3)) fun e w' => e = .returned (.bool true) ∧ Still (W5.alloc (.cells #[.int .i64 1, .int .i64 3, .int .i64 2] 3)) w') :=
    robots_any (lb := [1, 3, 2]) (.inr ⟨_, rfl, q5.kept ((Kept.refl (fun _ => False) W5).alloc _) id⟩) (isI_three W5 1 3 2)
  refine HR.out.mono ?_
  rintro e W6 ⟨rfl, s6⟩
  have sW : Still W5 W6 := ((Kept.refl (fun _ => False) W5).alloc _).trans s6 (fun _ _ h => h)
  have q6 := q5.kept sW id
  have K6 := Lib.hid (K5.out.trans sW (fun _ _ h => h.elim))
  clear q5 K5 sW s6 HR
  go_wp2_with fail
  refine (up_at q6 3 6 (b := false) (l' := lB) (by decide) (by decide)).mono ?_
  rintro e W7 ⟨rfl, q7, k7⟩
  have K7 := Lib.hid (K6.out.trans k7 (fun _ _ h => h))
  clear q6 K6 k7
  go_wp2_with fail
  refine (up_at q7 3 16 (b := false) (l' := lB) (by decide) (by decide)).mono ?_
  rintro e W8 ⟨rfl, q8, k8⟩
  have K8 := Lib.hid (K7.out.trans k8 (fun _ _ h => h))
  clear q7 K7 k8
  go_wp2_with fail
  refine (up_at q8 9 3 (b := false) (l' := lB) (by decide) (by decide)).mono ?_
  rintro e W9 ⟨rfl, q9, k9⟩
  have K9 := Lib.hid (K8.out.trans k9 (fun _ _ h => h))
  clear q8 K8 k9
  go_wp2_with fail
  refine (cut_at q9 3 (b := true) (l' := lN 0) (by decide) (by decide)).mono ?_
  rintro e W10 ⟨rfl, q10, k10⟩
  have K10 := Lib.hid (K9.out.trans k10 (fun _ _ h => h))
  clear q9 K9 k10
  go_wp2_with fail
  refine (cut_at q10 3 (b := false) (l' := lN 0) (by decide) (by decide)).mono ?_
  rintro e W11 ⟨rfl, q11, k11⟩
  have K11 := Lib.hid (K10.out.trans k11 (fun _ _ h => h))
  clear q10 K10 k11
  go_wp2_with fail
  have HQ11 := Lib.hid q11
  clear q11
  go_loopw [8] (fun u wr => ∃ m : Nat, 10 ≤ m ∧ m ≤ 16 ∧ u = .int .i64 (m : Int) ∧ QAt wr w.heap.size (lN (m - 10)) ∧ Kept (fun k => k = w.heap.size) w wr) (fun u _ => 16 - (intOf u).toNat)
  case atStart => exact ⟨10, by omega, by omega, rfl, HQ11.out, K11.out⟩
  case round =>
    obtain ⟨m, h10, h16, rfl, q12, k12⟩ := hrel
    rename World => W12
    by_cases hm : m < 16
    · obtain ⟨p1, p2, p3⟩ := lN_put (m - 10) (by omega)
      have HK := Lib.hid k12
      rw [show 10 + (m - 10) = m by omega] at p1 p2 p3
      have HM : Hid (m < 16 ∧ 10 ≤ m ∧ m - 10 + 1 = m + 1 - 10) := ⟨hm, h10, by omega⟩
      have HP := Lib.hid (put_lit q12 ⟨(m : Int), 0, 0⟩ p1 p2 p3)
      have hlt : (m : Int) < 16 := by omega
      have hw : IntKind.i64.wrap ((m : Int) + 1) = (m : Int) + 1 := IntWalk.i64_in _ (by omega)
      clear k12 q12 p1 p2 p3 h10 h16
      go_wp2_with fail
      refine HP.out.mono ?_
      rintro e W' ⟨rfl, q', k'⟩
      have HQ' := Lib.hid q'
      have HK' := Lib.hid (HK.out.trans k' (fun _ _ h => h))
      clear q' k' HP HK
      go_wp2
      go_roundw
      case rel => exact ⟨m + 1, by have := HM.out.2.1; omega, HM.out.1, by go_num, by rw [← HM.out.2.2]; exact HQ'.out, HK'.out⟩
      case measure => have := HM.out.1; simp [intOf]; omega
    · obtain rfl : m = 16 := by omega
      have K12 := Lib.hid k12
      clear k12 K11 HQ11
      go_wp2_with fail
      refine (put_lit q12 ⟨20, 0, 15⟩ (b := false) (l' := lN 6) (by decide) (by decide) (by decide)).mono ?_
      rintro e W13 ⟨rfl, q13, k13⟩
      have K13 := Lib.hid (K12.out.trans k13 (fun _ _ h => h))
      clear q12 K12 k13
      go_wp2_with fail
      refine (put_lit q13 ⟨15, 0, 15⟩ (b := true) (l' := lC) (by decide) (by decide) (by decide)).mono ?_
      rintro e W14 ⟨rfl, q14, k14⟩
      have K14 := Lib.hid (K13.out.trans k14 (fun _ _ h => h))
      clear q13 K13 k14
      go_wp2_with fail
      refine (put_bad q14 ⟨64, 0, 0⟩ (by decide)).mono ?_
      rintro e W15 ⟨rfl, q15, k15⟩
      have K15 := Lib.hid (K14.out.trans k15 (fun _ _ h => h))
      clear q14 K14 k15
      go_wp2_with fail
      refine (put_bad q15 ⟨0, 0, 16⟩ (by decide)).mono ?_
      rintro e W16 ⟨rfl, q16, k16⟩
      have K16 := Lib.hid (K15.out.trans k16 (fun _ _ h => h))
      clear q15 K15 k16
      go_wp2_with fail
      have H16s : Hid (Calls Try.prog 26 #[.pointer (some ⟨w.heap.size, 0, none⟩)] W16 fun e w' => e = .returned (.int .i64 8) ∧ W16 = w') := qlen_any (l := lC) (.inr ⟨_, rfl, q16⟩)
      refine H16s.out.mono ?_
      rintro e W' ⟨rfl, rfl⟩
      clear H16s
      go_wp2_with fail
      have HC : Hid (Calls Try.prog 9 #[.int .u32 0] W16 fun x w' => x = .returned (.pointer (some ⟨W16.heap.size, 0, none⟩)) ∧ CkAt w' W16.heap.size 0 0 ∧ Below W16.heap.size W16 w' ∧ w'.heap.size = W16.heap.size + 1) := ck_new W16 0
      refine HC.out.mono ?_
      rintro e V1 ⟨rfl, p1, b1, _⟩
      have hz : w.heap.size < W16.heap.size := q16.lt
      have KV1 := Lib.hid (K16.out.trans (still_of b1) (fun _ _ h => h.elim))
      have HH : Hid (Calls Try.prog 10 #[.pointer (some ⟨W16.heap.size, 0, none⟩), .int .u64 4294967295] V1 fun x w' => x = .returned (.tuple #[]) ∧ CkAt w' W16.heap.size 0 4294967295 ∧ Kept (fun k => k = W16.heap.size) V1 w') := hear_at (n := 4294967295) p1
      clear q16 K16 b1 p1 HC
      go_wp2_with fail
      refine HH.out.mono ?_
      rintro e V2 ⟨rfl, p2, k2⟩
      have hkk : ∀ k, k < w.heap.size → ¬ k = W16.heap.size := fun k hk => by omega
      have BV2 := Lib.hid ((KV1.out.below (B := w.heap.size) (fun k hk => by omega) (Nat.le_refl _)).trans (k2.below (B := w.heap.size) (fun k hk => by omega) (by have := KV1.out.size; omega)))
      have HE := Lib.hid (next_end p2 (by omega) rfl)
      clear p2 k2 KV1 HH hkk
      go_wp2_with fail
      refine HE.out.mono ?_
      rintro e V3 ⟨rfl, k3⟩
      have BV3 := Lib.hid (BV2.out.trans (k3.below (B := w.heap.size) (fun k hk => by omega) BV2.out.size))
      clear k3 BV2 HE hz
      go_wp2_with fail
      obtain ⟨V4, hV4, hb4, BV4⟩ : ∃ V4, V3.alloc (.cells #[.bool false, .int .u32 0, .int .u32 0] 68) = V4 ∧ V4.heap[V3.heap.size]? = some (.cells #[.bool false, .int .u32 0, .int .u32 0] 68 (0, 0)) ∧ Hid (Below w.heap.size w V4) := ⟨_, rfl, World.alloc_heap_new _ _, BV3.out.alloc BV3.out.size _⟩
      rw [hV4]
      clear hV4 BV3
      refine (next_no (ck_none V4)).mono ?_
      rintro e W' ⟨rfl, rfl⟩
      have c4 : V4.cell? ⟨V3.heap.size, 0, none⟩ = some (.bool false) := by rw [blk_cell hb4]; rfl
      have HZ := Lib.hid (next_no (ck_zero c4))
      clear c4 hb4
      go_wp2_with fail
      refine HZ.out.mono ?_
      rintro e W' ⟨rfl, rfl⟩
      clear HZ
      go_wp2_with fail
      refine (hear_no (ck_none V4) 1).mono ?_
      rintro e W' ⟨rfl, rfl⟩
      go_wp2_with fail
      have H5 : Hid (Calls Try.prog 14 #[.pointer none, .agg #[.int .i64 0, .int .u64 0, .int .i64 0]] V4 fun e w' => e = .returned (.tuple #[.bool false, .int .i64 1]) ∧ Below V4.heap.size V4 w') := put_none V4 ⟨0, 0, 0⟩
      refine H5.out.mono ?_
      rintro e V5 ⟨rfl, b5⟩
      have BV5 : Hid (Below w.heap.size w V5) := BV4.out.trans (b5.mono BV4.out.size)
      clear b5 BV4 H5
      go_wp2_with fail
      have H6 : Hid (Calls Try.prog 22 #[.pointer none] V5 fun e w' => e = .returned (.tuple #[.agg #[.int .i64 0, .int .u64 0, .int .i64 0], .bool false]) ∧ Below V5.heap.size V5 w') := first_any (l := []) (.inl ⟨rfl, rfl⟩)
      refine H6.out.mono ?_
      rintro e V6 ⟨rfl, b6⟩
      have BV6 : Hid (Below w.heap.size w V6) := BV5.out.trans (b6.mono BV5.out.size)
      clear b6 BV5 H6
      go_wp2_with fail
      obtain ⟨V7, hV7, BV7⟩ : ∃ V7, V6.alloc (.cells #[.int .i64 0, .int .u64 0, .int .i64 0] 40) = V7 ∧ Hid (Below w.heap.size w V7) := ⟨_, rfl, BV6.out.alloc BV6.out.size _⟩
      rw [hV7]
      clear hV7 BV6
      have H8 : Hid (Calls Try.prog 23 #[.pointer none, .int .i64 0] V7 fun e w' => e = .returned (.tuple #[.agg #[.int .i64 0, .int .u64 0, .int .i64 0], .bool false]) ∧ Below V7.heap.size V7 w') := fin_any (l := []) (.inl ⟨rfl, rfl⟩) 0
      refine H8.out.mono ?_
      rintro e V8 ⟨rfl, b8⟩
      have BV8 : Hid (Below w.heap.size w V8) := BV7.out.trans (b8.mono BV7.out.size)
      clear b8 BV7 H8
      go_wp2_with fail
      obtain ⟨V9, hV9, BV9⟩ : ∃ V9, V8.alloc (.cells #[.int .i64 0, .int .u64 0, .int .i64 0] 40) = V9 ∧ Hid (Below w.heap.size w V9) := ⟨_, rfl, BV8.out.alloc BV8.out.size _⟩
      rw [hV9]
      clear hV9 BV8
      have H10 : Hid (Calls Try.prog 31 #[] V9 fun e w' => e = .returned (.bool true) ∧ Below V9.heap.size V9 w') := alive_any V9
      refine H10.out.mono ?_
      rintro e V10 ⟨rfl, b10⟩
      have BV10 : Hid (Below w.heap.size w V10) := BV9.out.trans (b10.mono BV9.out.size)
      clear b10 BV9 H10
      go_wp2_with fail
      have H11 : Hid (Calls Try.prog 18 #[.pointer none, .int .i64 0] V10 fun e w' => e = .returned (.bool false) ∧ Below V10.heap.size V10 w') := (cut_any (l := []) (.inl ⟨rfl, rfl⟩) 0).mono fun e w' h => ⟨h.1, h.2.2.below (fun k hk => by obtain ⟨o, h1, _⟩ := hk; cases h1) (Nat.le_refl _)⟩
      refine H11.out.mono ?_
      rintro e V11 ⟨rfl, b11⟩
      have BV11 : Hid (Below w.heap.size w V11) := BV10.out.trans (b11.mono BV10.out.size)
      clear b11 BV10 H11
      go_wp2_with fail
      have H12 : Hid (Calls Try.prog 16 #[.pointer none, .int .i64 0, .int .i64 1] V11 fun e w' => e = .returned (.bool false) ∧ Below V11.heap.size V11 w') := (up_any (l := []) (.inl ⟨rfl, rfl⟩) 0 1).mono fun e w' h => ⟨h.1, h.2.2.below (fun k hk => by obtain ⟨o, h1, _⟩ := hk; cases h1) (Nat.le_refl _)⟩
      refine H12.out.mono ?_
      rintro e V12 ⟨rfl, b12⟩
      have BV12 : Hid (Below w.heap.size w V12) := BV11.out.trans (b12.mono BV11.out.size)
      clear b12 BV11 H12
      go_wp2_with fail
      have HLn : Hid (Calls Try.prog 26 #[.pointer none] V12 fun e w' => e = .returned (.int .i64 0) ∧ V12 = w') := qlen_any (l := []) (.inl ⟨rfl, rfl⟩)
      refine HLn.out.mono ?_
      rintro e W' ⟨rfl, rfl⟩
      clear HLn
      go_wp2_with fail
      refine (all_any (w := V12) (p := none) (l := []) (.inl ⟨rfl, rfl⟩)).mono ?_
      rintro e V13 ⟨v, rfl, ho, b13⟩
      obtain ⟨A, cp, rfl, _⟩ := IsW.of_row ho
      have HF : Hid (Below w.heap.size w V13) := BV12.out.trans (b13.mono BV12.out.size)
      clear ho b13 BV12
      go_wp2
      go_ret
      exact ⟨rfl, HF.out⟩
end Go.Proofs.Ytnecmlkljijofaa
