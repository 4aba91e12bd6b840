/-
  The document's MayMessage: its second long question, group by group.
-/
import Derived.Test.YtmfbokaaoffdnaaDoorWrU
import Derived.Test.YtmfbokaaoffdnaaDoorCut
import Derived.Deep.DeepCutAuto
import Derived.Deep.CutBlock
namespace Go.Proofs.YtmfbokaaoffdnaaDoor
set_option maxRecDepth 100000
set_option linter.unusedSimpArgs false
open Go Go.RowKit Wr

/-- The frame behind a group: nine slots, and the answer. -/
def fr9 (T : Array Value) (d : Nat) (v0 v1 v2 v3 v4 v5 v6 v7 v8 : Value) (r : Bool) : Array Value :=
  (((((((((T.setIfInBounds d v0).setIfInBounds (d + 1) v1).setIfInBounds (d + 2) v2).setIfInBounds (d + 3) v3).setIfInBounds (d + 4) v4).setIfInBounds (d + 5) v5).setIfInBounds (d + 6) v6).setIfInBounds (d + 7) v7).setIfInBounds (d + 8) v8).setIfInBounds (d + 9) (.bool r)
def fr8 (T : Array Value) (d : Nat) (v0 v1 v2 v3 v4 v5 v6 v7 : Value) (r : Bool) : Array Value :=
  ((((((((T.setIfInBounds d v0).setIfInBounds (d + 1) v1).setIfInBounds (d + 2) v2).setIfInBounds (d + 3) v3).setIfInBounds (d + 4) v4).setIfInBounds (d + 5) v5).setIfInBounds (d + 6) v6).setIfInBounds (d + 7) v7).setIfInBounds (d + 8) (.bool r)
theorem cut9 {P : Program} {ops : Array Oper} {Q : Exit → Act → World → Prop} {l : List Oper} {T : Array Value} {w : World} (k d : Nat) (r : Bool)
    (h1 : wpList P ops (cutQ Q (fun a w' => w' = w ∧ a.defers = [] ∧ a.tmps = fr9 T d (a.tmps.getD d undef) (a.tmps.getD (d + 1) undef) (a.tmps.getD (d + 2) undef) (a.tmps.getD (d + 3) undef) (a.tmps.getD (d + 4) undef) (a.tmps.getD (d + 5) undef) (a.tmps.getD (d + 6) undef) (a.tmps.getD (d + 7) undef) (a.tmps.getD (d + 8) undef) r)) (l.take k) { tmps := T, defers := [] } w)
    (h2 : ∀ v0 v1 v2 v3 v4 v5 v6 v7 v8, wpList P ops Q (l.drop k) { tmps := fr9 T d v0 v1 v2 v3 v4 v5 v6 v7 v8 r, defers := [] } w) : wpList P ops Q l { tmps := T, defers := [] } w := by
  have := wpList_cut (P := P) (ops := ops) (Q := Q) (rest := l.drop k) (fun a w' h => by
    obtain ⟨rfl, e1, e2⟩ := h
    obtain ⟨tmps, defers⟩ := a
    obtain rfl : defers = [] := e1
    simp only at e2
    have h3 := h2 (tmps.getD d undef) (tmps.getD (d + 1) undef) (tmps.getD (d + 2) undef) (tmps.getD (d + 3) undef) (tmps.getD (d + 4) undef) (tmps.getD (d + 5) undef) (tmps.getD (d + 6) undef) (tmps.getD (d + 7) undef) (tmps.getD (d + 8) undef)
    rw [← e2] at h3
    exact h3) (l.take k) _ w h1
  rwa [List.take_append_drop] at this
theorem cut8 {P : Program} {ops : Array Oper} {Q : Exit → Act → World → Prop} {l : List Oper} {T : Array Value} {w : World} (k d : Nat) (r : Bool)
    (h1 : wpList P ops (cutQ Q (fun a w' => w' = w ∧ a.defers = [] ∧ a.tmps = fr8 T d (a.tmps.getD d undef) (a.tmps.getD (d + 1) undef) (a.tmps.getD (d + 2) undef) (a.tmps.getD (d + 3) undef) (a.tmps.getD (d + 4) undef) (a.tmps.getD (d + 5) undef) (a.tmps.getD (d + 6) undef) (a.tmps.getD (d + 7) undef) r)) (l.take k) { tmps := T, defers := [] } w)
    (h2 : ∀ v0 v1 v2 v3 v4 v5 v6 v7, wpList P ops Q (l.drop k) { tmps := fr8 T d v0 v1 v2 v3 v4 v5 v6 v7 r, defers := [] } w) : wpList P ops Q l { tmps := T, defers := [] } w := by
  have := wpList_cut (P := P) (ops := ops) (Q := Q) (rest := l.drop k) (fun a w' h => by
    obtain ⟨rfl, e1, e2⟩ := h
    obtain ⟨tmps, defers⟩ := a
    obtain rfl : defers = [] := e1
    simp only at e2
    have h3 := h2 (tmps.getD d undef) (tmps.getD (d + 1) undef) (tmps.getD (d + 2) undef) (tmps.getD (d + 3) undef) (tmps.getD (d + 4) undef) (tmps.getD (d + 5) undef) (tmps.getD (d + 6) undef) (tmps.getD (d + 7) undef)
    rw [← e2] at h3
    exact h3) (l.take k) _ w h1
  rwa [List.take_append_drop] at this
/-- Some field that is not named is not 0. -/
def unz (k c : Int) (g s : Nat) (pr h o t : Int) (n : Nat) : Bool :=
  (((((((((!(nmI k).contains 99 && (c != 0)) || (!(nmI k).contains 103 && ((g : Int) != 0))) || (!(nmI k).contains 115 && ((s : Int) != 0))) || (!(nmI k).contains 112 && (pr != 0))) || (!(nmI k).contains 104 && (h != 0))) || (!(nmI k).contains 111 && (o != 0))) || (!(nmI k).contains 119 && (t != 0))) || (!(nmI k).contains 108 && decide (0 < n))))
theorem nm_all : ∀ j, j < 12 → (∀ c ∈ nmL.getD j [], c < 256) ∧ (nmL.getD j []).length ≤ 100 := by decide
theorem nm_lt (k : Int) : ∀ c ∈ nmI k, c < 256 := by
  unfold nmI
  split
  · exact (nm_all k.toNat (by omega)).1
  · exact fun c hc => absurd hc List.not_mem_nil
theorem nm_len (k : Int) : (nmI k).length ≤ 100 := by
  unfold nmI
  split
  · exact (nm_all k.toNat (by omega)).2
  · exact Nat.zero_le _

set_option maxHeartbeats 8000000 in
theorem rmay_all (w : World) (k c : Int) (g s : Nat) (pr h o t : Int) (A : Option Addr) (n cap : Nat) (hk : 1 ≤ k ∧ k ≤ 11) (hR : docR c pr h o t n) {l : List (Int × Nat)} (hn : n = l.length) (hC : ClaimsAt w A l) :
    Calls Tryd.prog 6 #[.agg #[.int .i64 k, .int .i64 c, .int .u32 (g : Nat), .int .u64 (s : Nat), .int .i64 pr, .int .i64 h, .int .i64 o, .int .i64 t, .slice A n cap]] w fun e w' => e = .returned (.bool (!unz k c g s pr h o t n && rise 0 l)) ∧ Below w.heap.size w w' := by
  obtain ⟨P, hP⟩ : ∃ P : Ending → World → Prop, P = fun e w' => e = .returned (.bool (!unz k c g s pr h o t n && rise 0 l)) ∧ Below w.heap.size w w' := ⟨_, rfl⟩
  have HQT : Hid (unz k c g s pr h o t n = true → ∀ w', Below w.heap.size w w' → P (.returned (.bool false)) w') := by rw [hP]; exact fun e w' h => ⟨by rw [e]; rfl, h⟩
  have HQF : Hid (unz k c g s pr h o t n = false → ∀ b, b = rise 0 l → ∀ w', Below w.heap.size w w' → P (.returned (.bool b)) w') := by rw [hP]; exact fun e b e2 w' h => ⟨by rw [e, e2]; rfl, h⟩
  rw [← hP]
  clear hP
  have HNL := Lib.hid hn
  have HCL : Hid (∀ o, ClaimsAt (w.alloc o) A l) := fun o => hC.below ((Below.refl _ w).alloc (Nat.le_refl _) o)
  clear hn hC
  have HN : Hid (∀ o, Below w.heap.size w (w.alloc o)) := fun o => (Below.refl _ w).alloc (Nat.le_refl _) o
  have hw : ∃ a u, wordI k = .string ⟨(a :: u).toArray⟩ := word_some (k := k) (decide_eq_true hk)
  obtain ⟨a, u, hw⟩ := hw
  have RN : Hid (∀ W, Calls Tryd.prog 16 #[.int .i64 k] W fun e w' => e = .returned (.string ⟨(a :: u).toArray⟩) ∧ w' = W) := fun W => by
    have := rname_any W k
    rwa [hw] at this
  obtain ⟨S, hS⟩ : ∃ S, S = strN (nmI k) := ⟨_, rfl⟩
  have RM : Hid (∀ W, Calls Tryd.prog 19 #[.int .i64 k] W fun e w' => e = .returned (.string S) ∧ w' = W) := fun W => by
    have := rnames_any W k
    unfold nmV at this
    rwa [← hS] at this
  obtain ⟨S0, hS0⟩ : ∃ S0 : ByteArray, S0 = ⟨(a :: u).toArray⟩ := ⟨_, rfl⟩
  have hne : S0.toList.isEmpty = false := by
    have e : (S0.toList == (⟨#[]⟩ : ByteArray).toList) = false := by
      rw [← beq_toListBytes, hS0]
      show ((a :: u).toArray == #[]) = false
      simp
    cases h : S0.toList with
    | nil => rw [h] at e; exact absurd e (by decide +kernel)
    | cons => rfl
  rw [← hS0] at RN
  obtain ⟨b1, hb1⟩ : ∃ b : Bool, b = (nmI k).contains 99 := ⟨_, rfl⟩
  have H1 : Hid (∀ W, Calls Tryd.prog 20 #[.string S, .int .u8 99] W fun e w' => e = .returned (.bool b1) ∧ w' = W) := fun W => by
    have := has_any W (nmI k) (nm_lt k) (nm_len k) 99
    rwa [← hS, ← hb1] at this
  obtain ⟨b2, hb2⟩ : ∃ b : Bool, b = (nmI k).contains 103 := ⟨_, rfl⟩
  have H2 : Hid (∀ W, Calls Tryd.prog 20 #[.string S, .int .u8 103] W fun e w' => e = .returned (.bool b2) ∧ w' = W) := fun W => by
    have := has_any W (nmI k) (nm_lt k) (nm_len k) 103
    rwa [← hS, ← hb2] at this
  obtain ⟨b3, hb3⟩ : ∃ b : Bool, b = (nmI k).contains 115 := ⟨_, rfl⟩
  have H3 : Hid (∀ W, Calls Tryd.prog 20 #[.string S, .int .u8 115] W fun e w' => e = .returned (.bool b3) ∧ w' = W) := fun W => by
    have := has_any W (nmI k) (nm_lt k) (nm_len k) 115
    rwa [← hS, ← hb3] at this
  obtain ⟨b4, hb4⟩ : ∃ b : Bool, b = (nmI k).contains 112 := ⟨_, rfl⟩
  have H4 : Hid (∀ W, Calls Tryd.prog 20 #[.string S, .int .u8 112] W fun e w' => e = .returned (.bool b4) ∧ w' = W) := fun W => by
    have := has_any W (nmI k) (nm_lt k) (nm_len k) 112
    rwa [← hS, ← hb4] at this
  obtain ⟨b5, hb5⟩ : ∃ b : Bool, b = (nmI k).contains 104 := ⟨_, rfl⟩
  have H5 : Hid (∀ W, Calls Tryd.prog 20 #[.string S, .int .u8 104] W fun e w' => e = .returned (.bool b5) ∧ w' = W) := fun W => by
    have := has_any W (nmI k) (nm_lt k) (nm_len k) 104
    rwa [← hS, ← hb5] at this
  obtain ⟨b6, hb6⟩ : ∃ b : Bool, b = (nmI k).contains 111 := ⟨_, rfl⟩
  have H6 : Hid (∀ W, Calls Tryd.prog 20 #[.string S, .int .u8 111] W fun e w' => e = .returned (.bool b6) ∧ w' = W) := fun W => by
    have := has_any W (nmI k) (nm_lt k) (nm_len k) 111
    rwa [← hS, ← hb6] at this
  obtain ⟨b7, hb7⟩ : ∃ b : Bool, b = (nmI k).contains 119 := ⟨_, rfl⟩
  have H7 : Hid (∀ W, Calls Tryd.prog 20 #[.string S, .int .u8 119] W fun e w' => e = .returned (.bool b7) ∧ w' = W) := fun W => by
    have := has_any W (nmI k) (nm_lt k) (nm_len k) 119
    rwa [← hS, ← hb7] at this
  obtain ⟨b8, hb8⟩ : ∃ b : Bool, b = (nmI k).contains 108 := ⟨_, rfl⟩
  have H8 : Hid (∀ W, Calls Tryd.prog 20 #[.string S, .int .u8 108] W fun e w' => e = .returned (.bool b8) ∧ w' = W) := fun W => by
    have := has_any W (nmI k) (nm_lt k) (nm_len k) 108
    rwa [← hS, ← hb8] at this
  obtain ⟨r1, r2, r3, r4, r5, r6, r7, r8, r9, r10, r11⟩ := hR
  have d1 : decide (c < 0) = false := by simp; omega
  have d2 : decide (1023 < c) = false := by simp; omega
  have d3 : decide (pr < 0) = false := by simp; omega
  have d4 : decide (15 < pr) = false := by simp; omega
  have d5 : decide (h < 0) = false := by simp; omega
  have d6 : decide (64 < h) = false := by simp; omega
  have d7 : decide (o < 0) = false := by simp; omega
  have d8 : decide (63 < o) = false := by simp; omega
  have d9 : decide (t < -1) = false := by simp; omega
  have d10 : decide (63 < t) = false := by simp; omega
  have d11 : decide ((16 : Int) < (n : Int)) = false := by simp; omega
  have HU : Hid (unz k c g s pr h o t n = (((((((((!b1 && (c != 0)) || (!b2 && ((g : Int) != 0))) || (!b3 && ((s : Int) != 0))) || (!b4 && (pr != 0))) || (!b5 && (h != 0))) || (!b6 && (o != 0))) || (!b7 && (t != 0))) || (!b8 && decide (0 < n))))) := by
    show unz k c g s pr h o t n = _
    rw [hb1, hb2, hb3, hb4, hb5, hb6, hb7, hb8]
    rfl
  have hn16 := r11
  clear hk hw hS hS0 hb1 hb2 hb3 hb4 hb5 hb6 hb7 hb8 r1 r2 r3 r4 r5 r6 r7 r8 r9 r10 r11
  go_enter Tryd.func6, Tryd.ntmps6
  go_upto_region 6 with (first | ((with_reducible refine (RN.out _).mono ?_); rintro e w' ⟨rfl, rfl⟩) | ((with_reducible refine (RM.out _).mono ?_); rintro e w' ⟨rfl, rfl⟩))
  clear d1 d2 d3 d4 d5 d6 d7 d8 d9 d10 d11 RN RM
  refine wp_region_list ?_
  simp only [List.toList_toArray, List.append_eq, List.cons_append, List.nil_append]
  refine cut8 9 67 (!b1 && (c != 0)) ?_ ?_
  · simp only [List.take_succ_cons, List.take_zero]
    cases b1
    · go_wp2_with ((with_reducible refine (H1.out _).mono ?_); rintro e w' ⟨rfl, rfl⟩)
      exact (show _ ∧ _ from ⟨rfl, rfl, by kernel_rfl⟩)
    · go_wp2_with ((with_reducible refine (H1.out _).mono ?_); rintro e w' ⟨rfl, rfl⟩)
      exact (show _ ∧ _ from ⟨rfl, rfl, by kernel_rfl⟩)
  clear H1
  intro v0 v1 v2 v3 v4 v5 v6 v7
  simp only [List.drop_succ_cons, List.drop_zero, fr8, List.setIfInBounds_toArray, List.set_cons_zero, List.set_cons_succ]
  generalize hq1 : (!b1 && (c != 0)) = q1
  -- the field 2
  refine cut9 10 76 (q1 || (!b2 && ((g : Int) != 0))) ?_ ?_
  · simp only [List.take_succ_cons, List.take_zero]
    clear hq1
    cases q1
    · cases b2
      · go_wp2_with ((with_reducible refine (H2.out _).mono ?_); rintro e w' ⟨rfl, rfl⟩)
        exact (show _ ∧ _ from ⟨rfl, rfl, by kernel_rfl⟩)
      · go_wp2_with ((with_reducible refine (H2.out _).mono ?_); rintro e w' ⟨rfl, rfl⟩)
        exact (show _ ∧ _ from ⟨rfl, rfl, by kernel_rfl⟩)
    · go_wp2_with ((with_reducible refine (H2.out _).mono ?_); rintro e w' ⟨rfl, rfl⟩)
      exact (show _ ∧ _ from ⟨rfl, rfl, by kernel_rfl⟩)
  clear H2
  intro y0 y1 y2 y3 y4 y5 y6 y7 y8
  simp only [List.drop_succ_cons, List.drop_zero, fr9, List.setIfInBounds_toArray, List.set_cons_zero, List.set_cons_succ]
  have HY2 : Hid (q1 = q1) := rfl
  generalize hq2 : (q1 || (!b2 && ((g : Int) != 0))) = q2
  -- the field 3
  refine cut9 10 86 (q2 || (!b3 && ((s : Int) != 0))) ?_ ?_
  · simp only [List.take_succ_cons, List.take_zero]
    clear hq2
    cases q2
    · cases b3
      · go_wp2_with ((with_reducible refine (H3.out _).mono ?_); rintro e w' ⟨rfl, rfl⟩)
        exact (show _ ∧ _ from ⟨rfl, rfl, by kernel_rfl⟩)
      · go_wp2_with ((with_reducible refine (H3.out _).mono ?_); rintro e w' ⟨rfl, rfl⟩)
        exact (show _ ∧ _ from ⟨rfl, rfl, by kernel_rfl⟩)
    · go_wp2_with ((with_reducible refine (H3.out _).mono ?_); rintro e w' ⟨rfl, rfl⟩)
      exact (show _ ∧ _ from ⟨rfl, rfl, by kernel_rfl⟩)
  clear H3
  intro y0 y1 y2 y3 y4 y5 y6 y7 y8
  simp only [List.drop_succ_cons, List.drop_zero, fr9, List.setIfInBounds_toArray, List.set_cons_zero, List.set_cons_succ]
  have HY3 : Hid (q2 = q2) := rfl
  generalize hq3 : (q2 || (!b3 && ((s : Int) != 0))) = q3
  -- the field 4
  refine cut9 10 96 (q3 || (!b4 && (pr != 0))) ?_ ?_
  · simp only [List.take_succ_cons, List.take_zero]
    clear hq3
    cases q3
    · cases b4
      · go_wp2_with ((with_reducible refine (H4.out _).mono ?_); rintro e w' ⟨rfl, rfl⟩)
        exact (show _ ∧ _ from ⟨rfl, rfl, by kernel_rfl⟩)
      · go_wp2_with ((with_reducible refine (H4.out _).mono ?_); rintro e w' ⟨rfl, rfl⟩)
        exact (show _ ∧ _ from ⟨rfl, rfl, by kernel_rfl⟩)
    · go_wp2_with ((with_reducible refine (H4.out _).mono ?_); rintro e w' ⟨rfl, rfl⟩)
      exact (show _ ∧ _ from ⟨rfl, rfl, by kernel_rfl⟩)
  clear H4
  intro y0 y1 y2 y3 y4 y5 y6 y7 y8
  simp only [List.drop_succ_cons, List.drop_zero, fr9, List.setIfInBounds_toArray, List.set_cons_zero, List.set_cons_succ]
  have HY4 : Hid (q3 = q3) := rfl
  generalize hq4 : (q3 || (!b4 && (pr != 0))) = q4
  -- the field 5
  refine cut9 10 106 (q4 || (!b5 && (h != 0))) ?_ ?_
  · simp only [List.take_succ_cons, List.take_zero]
    clear hq4
    cases q4
    · cases b5
      · go_wp2_with ((with_reducible refine (H5.out _).mono ?_); rintro e w' ⟨rfl, rfl⟩)
        exact (show _ ∧ _ from ⟨rfl, rfl, by kernel_rfl⟩)
      · go_wp2_with ((with_reducible refine (H5.out _).mono ?_); rintro e w' ⟨rfl, rfl⟩)
        exact (show _ ∧ _ from ⟨rfl, rfl, by kernel_rfl⟩)
    · go_wp2_with ((with_reducible refine (H5.out _).mono ?_); rintro e w' ⟨rfl, rfl⟩)
      exact (show _ ∧ _ from ⟨rfl, rfl, by kernel_rfl⟩)
  clear H5
  intro y0 y1 y2 y3 y4 y5 y6 y7 y8
  simp only [List.drop_succ_cons, List.drop_zero, fr9, List.setIfInBounds_toArray, List.set_cons_zero, List.set_cons_succ]
  have HY5 : Hid (q4 = q4) := rfl
  generalize hq5 : (q4 || (!b5 && (h != 0))) = q5
  -- the field 6
  refine cut9 10 116 (q5 || (!b6 && (o != 0))) ?_ ?_
  · simp only [List.take_succ_cons, List.take_zero]
    clear hq5
    cases q5
    · cases b6
      · go_wp2_with ((with_reducible refine (H6.out _).mono ?_); rintro e w' ⟨rfl, rfl⟩)
        exact (show _ ∧ _ from ⟨rfl, rfl, by kernel_rfl⟩)
      · go_wp2_with ((with_reducible refine (H6.out _).mono ?_); rintro e w' ⟨rfl, rfl⟩)
        exact (show _ ∧ _ from ⟨rfl, rfl, by kernel_rfl⟩)
    · go_wp2_with ((with_reducible refine (H6.out _).mono ?_); rintro e w' ⟨rfl, rfl⟩)
      exact (show _ ∧ _ from ⟨rfl, rfl, by kernel_rfl⟩)
  clear H6
  intro y0 y1 y2 y3 y4 y5 y6 y7 y8
  simp only [List.drop_succ_cons, List.drop_zero, fr9, List.setIfInBounds_toArray, List.set_cons_zero, List.set_cons_succ]
  have HY6 : Hid (q5 = q5) := rfl
  generalize hq6 : (q5 || (!b6 && (o != 0))) = q6
  -- the field 7
  refine cut9 10 126 (q6 || (!b7 && (t != 0))) ?_ ?_
  · simp only [List.take_succ_cons, List.take_zero]
    clear hq6
    cases q6
    · cases b7
      · go_wp2_with ((with_reducible refine (H7.out _).mono ?_); rintro e w' ⟨rfl, rfl⟩)
        exact (show _ ∧ _ from ⟨rfl, rfl, by kernel_rfl⟩)
      · go_wp2_with ((with_reducible refine (H7.out _).mono ?_); rintro e w' ⟨rfl, rfl⟩)
        exact (show _ ∧ _ from ⟨rfl, rfl, by kernel_rfl⟩)
    · go_wp2_with ((with_reducible refine (H7.out _).mono ?_); rintro e w' ⟨rfl, rfl⟩)
      exact (show _ ∧ _ from ⟨rfl, rfl, by kernel_rfl⟩)
  clear H7
  intro y0 y1 y2 y3 y4 y5 y6 y7 y8
  simp only [List.drop_succ_cons, List.drop_zero, fr9, List.setIfInBounds_toArray, List.set_cons_zero, List.set_cons_succ]
  have HY7 : Hid (q6 = q6) := rfl
  generalize hq7 : (q6 || (!b7 && (t != 0))) = q7
  -- the field 8
  refine cut9 10 136 (q7 || (!b8 && decide (0 < n))) ?_ ?_
  · simp only [List.take_succ_cons, List.take_zero]
    clear hq7
    cases q7
    · cases b8
      · go_wp2_with ((with_reducible refine (H8.out _).mono ?_); rintro e w' ⟨rfl, rfl⟩)
        exact (show _ ∧ _ from ⟨rfl, rfl, by kernel_rfl⟩)
      · go_wp2_with ((with_reducible refine (H8.out _).mono ?_); rintro e w' ⟨rfl, rfl⟩)
        exact (show _ ∧ _ from ⟨rfl, rfl, by kernel_rfl⟩)
    · go_wp2_with ((with_reducible refine (H8.out _).mono ?_); rintro e w' ⟨rfl, rfl⟩)
      exact (show _ ∧ _ from ⟨rfl, rfl, by kernel_rfl⟩)
  clear H8
  intro y0 y1 y2 y3 y4 y5 y6 y7 y8
  simp only [List.drop_succ_cons, List.drop_zero, fr9, List.setIfInBounds_toArray, List.set_cons_zero, List.set_cons_succ]
  have HY8 : Hid (q7 = q7) := rfl
  generalize hq8 : (q7 || (!b8 && decide (0 < n))) = q8
  have hqu : unz k c g s pr h o t n = q8 := by rw [HU.out, hq1, hq2, hq3, hq4, hq5, hq6, hq7, hq8]
  have HQU := Lib.hid hqu
  clear hqu HU hq1 hq2 hq3 hq4 hq5 hq6 hq7 hq8 HY2 HY3 HY4 HY5 HY6 HY7 HY8
  cases q8 with
  | true =>
    have HF := Lib.hid (HQT.out HQU.out _ (HN.out (.cells #[.int .i64 k, .int .i64 c, .int .u32 (g : Nat), .int .u64 (s : Nat), .int .i64 pr, .int .i64 h, .int .i64 o, .int .i64 t, .slice A n cap] 26)))
    clear HQT HQF HCL HN
    go_wp2
    first | exact HF.out | (go_ret; exact HF.out)
  | false =>
    have HF : Hid (∀ b, b = rise 0 l → P (.returned (.bool b)) (w.alloc (.cells #[.int .i64 k, .int .i64 c, .int .u32 (g : Nat), .int .u64 (s : Nat), .int .i64 pr, .int .i64 h, .int .i64 o, .int .i64 t, .slice A n cap] 26))) := fun b hb => HQF.out HQU.out b hb _ (HN.out _)
    clear HQT HQF HN HQU
    go_wp2
    go_loopw [4, 5] (fun v _ wr => ∃ (i : Nat) (L : Int), v = .int .i64 (i : Int) ∧ ClI l i L ∧ wr = w.alloc (.cells #[.int .i64 k, .int .i64 c, .int .u32 (g : Nat), .int .u64 (s : Nat), .int .i64 pr, .int .i64 h, .int .i64 o, .int .i64 t, .slice A n cap] 26)) (fun v _ _ => n - (intOf v).toNat)
    case atStart => exact ⟨0, 0, rfl, ⟨Nat.zero_le _, rfl, Int.le_refl _, fun _ => rfl, fun h => absurd h (Nat.lt_irrefl _)⟩, rfl⟩
    case round =>
      obtain ⟨i, L, rfl, hI, hwr⟩ := hrel
      rw [hwr]
      clear hwr
      have hle : i ≤ n := by have := hI.1; rw [HNL.out]; exact this
      by_cases hlt : i < n
      · obtain ⟨a0, rfl, c1, _⟩ := HCL.out (.cells #[.int .i64 k, .int .i64 c, .int .u32 (g : Nat), .int .u64 (s : Nat), .int .i64 pr, .int .i64 h, .int .i64 o, .int .i64 t, .slice A n cap] 26) i (by rw [← HNL.out]; exact hlt)
        have hil : i < l.length := by rw [← HNL.out]; exact hlt
        have HLT := Lib.hid hlt
        have hok := fun h1 h2 => cl_ok hI hil h1 h2
        have hbad := fun h1 => cl_bad hI hil h1
        have HOK := Lib.hid hok
        have HBAD := Lib.hid hbad
        have hL0 := hI.2.2.1
        have hL1 := hI.2.2.2.1
        have hL2 := hI.2.2.2.2
        have j0 : (0 : Int) ≤ (i : Int) := by omega
        have j1 : (i : Int) < (n : Int) := by omega
        have x4 : IntKind.i64.wrap ((i : Int) + 1) = (i : Int) + 1 := IntWalk.i64_in _ (by omega)
        generalize hx : (l.getD i (0, 0)).1 = x at *
        by_cases hx1 : x < 0
        · have e1 : decide (x < 0) = true := decide_eq_true hx1
          have HE := Lib.hid (HF.out false (HBAD.out (by omega)).symm)
          clear HF HCL HOK HBAD hx1 hok hbad hI hL0 hL1 hL2 hle hil hlt hx
          go_wp2
          first | exact HE.out | (go_ret; exact HE.out)
        · have e1 : decide (x < 0) = false := decide_eq_false hx1
          by_cases hx2 : 1023 < x
          · have e2 : decide (1023 < x) = true := decide_eq_true hx2
            have HE := Lib.hid (HF.out false (HBAD.out (by omega)).symm)
            clear HF HCL HOK HBAD hx1 hx2 hok hbad hI hL0 hL1 hL2 hle hil hlt hx
            go_wp2
            first | exact HE.out | (go_ret; exact HE.out)
          · have e2 : decide (1023 < x) = false := decide_eq_false hx2
            by_cases hi0 : i = 0
            · have hL := hL1 hi0
              have HN2 := Lib.hid (HOK.out (by omega) (by omega))
              have e3 : decide (0 < i) = false := by simp [hi0]
              clear HF HCL HOK HBAD hx1 hx2 hok hbad hI hL0 hL1 hL2 hle hil hlt hx hi0 hL
              go_wp2
              go_roundw
              case rel => exact ⟨i + 1, _, by push_cast; rfl, HN2.out, trivial⟩
              case measure => have := HLT.out; simp [intOf]; omega
            · obtain ⟨p, hp⟩ : ∃ p, i = p + 1 := ⟨i - 1, by omega⟩
              have hLp : L = (l.getD p (0, 0)).1 + 1 := by have := hL2 (by omega); rw [hp] at this; simpa using this
              obtain ⟨a1, ea, c3, _⟩ := HCL.out (.cells #[.int .i64 k, .int .i64 c, .int .u32 (g : Nat), .int .u64 (s : Nat), .int .i64 pr, .int .i64 h, .int .i64 o, .int .i64 t, .slice (some a0) n cap] 26) p (by omega)
              injection ea with ea
              subst ea
              generalize (l.getD p (0, 0)).1 = y at *
              have j3 : (0 : Int) ≤ (p : Int) := by omega
              have j4 : (p : Int) < (n : Int) := by omega
              have x5 : IntKind.i64.wrap ((i : Int) - 1) = (p : Int) := by rw [IntWalk.i64_in _ (by omega)]; omega
              have e3 : decide (0 < i) = true := by simp; omega
              by_cases hxy : x ≤ y
              · have e4 : decide (x ≤ y) = true := decide_eq_true hxy
                have HE := Lib.hid (HF.out false (HBAD.out (by omega)).symm)
                clear HF HCL HOK HBAD hx1 hx2 hok hbad hI hL0 hL1 hL2 hle hil hlt hx hi0 hp hLp hxy
                go_wp2
                first | exact HE.out | (go_ret; exact HE.out)
              · have e4 : decide (x ≤ y) = false := decide_eq_false hxy
                have HN2 := Lib.hid (HOK.out (by omega) (by omega))
                clear HF HCL HOK HBAD hx1 hx2 hok hbad hI hL0 hL1 hL2 hle hil hlt hx hi0 hp hLp hxy
                go_wp2
                go_roundw
                case rel => exact ⟨i + 1, _, by push_cast; rfl, HN2.out, trivial⟩
                case measure => have := HLT.out; simp [intOf]; omega
      · have hie : i = n := by omega
        have HE := Lib.hid (HF.out true (cl_end hI (by rw [← HNL.out]; exact hie)).symm)
        clear hI HF HCL
        rw [hie]
        go_wp2
        first | exact HE.out | (go_ret; exact HE.out)
end Go.Proofs.YtmfbokaaoffdnaaDoor
