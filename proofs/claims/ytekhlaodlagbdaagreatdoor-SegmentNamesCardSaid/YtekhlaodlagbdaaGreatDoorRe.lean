/-
  The walk of the document's Edge.
-/
import Derived.Test.YtekhlaodlagbdaaGreatDoorRf
namespace Go.Proofs.YtekhlaodlagbdaaGreatDoor
set_option maxRecDepth 100000
set_option linter.unusedSimpArgs false
open Go.RowKit

/-- Which way leads from cell a to the cell x beside it. -/
def dirK (C : Nat) (a x : Int) : Nat := if x = a - 1 ∧ x.toNat / C = a.toNat / C then 1 else if x.toNat / C < a.toNat / C then 0 else if a.toNat / C < x.toNat / C then 3 else 2
def edgeB (C : Nat) (ms : List UInt8) (a x : Int) : Bool :=
  freeB ms a && freeB ms x && (farZ C ms.length a x == 1) && (((((kindB ms a).toNat : Int) == 46) || (((kindB ms a).toNat : Int) == mkK (dirK C a x))) && (((kindB ms x).toNat : Int) != agK (dirK C a x)))

theorem free_range {ms : List UInt8} {i : Int} (h : freeB ms i = true) : 0 ≤ i ∧ i < (ms.length : Int) := by
  unfold freeB at h
  simp only [Bool.and_eq_true, decide_eq_true_eq] at h
  exact h.1

set_option maxHeartbeats 1600000 in
theorem redge_any {b g cap : Nat} {Q : List ByteArray} {w : World} (a x : Int) (h : RefAt w b g cap Q) (hg : Pure.Good (lsts Q)) :
    Calls Tryz.prog 70 #[.pointer (some ⟨b, 0, none⟩), .int .i64 a, .int .i64 x] w fun e w' => e = .returned (.bool (edgeB (Pure.wid (lsts Q)) (lsts Q).flatten a x)) ∧ ∃ n, w' = w.drewN n := by
  have HR : Hid (RefAt w b g cap Q) := h
  have HW : Hid (∀ w', RefAt w' b g cap Q → Calls Tryz.prog 98 #[.pointer (some ⟨b, 0, none⟩)] w' fun e w'' => e = .returned (.int .i64 (Pure.wid (lsts Q) : Int)) ∧ w'' = w') := fun w' h => rcols_any h hg
  have HKa : Hid (∀ w', RefAt w' b g cap Q → Calls Tryz.prog 91 #[.pointer (some ⟨b, 0, none⟩), .int .i64 a] w' fun e w'' => e = .returned (.int .u8 ((kindB (lsts Q).flatten a).toNat : Int)) ∧ ∃ n, w'' = w'.drewN n) := fun w' h => rkind_any a h hg
  have HKx : Hid (∀ w', RefAt w' b g cap Q → Calls Tryz.prog 91 #[.pointer (some ⟨b, 0, none⟩), .int .i64 x] w' fun e w'' => e = .returned (.int .u8 ((kindB (lsts Q).flatten x).toNat : Int)) ∧ ∃ n, w'' = w'.drewN n) := fun w' h => rkind_any x h hg
  have HFa : Hid (∀ w', RefAt w' b g cap Q → Calls Tryz.prog 57 #[.pointer (some ⟨b, 0, none⟩), .int .i64 a] w' fun e w'' => e = .returned (.bool (freeB (lsts Q).flatten a)) ∧ ∃ n, w'' = w'.drewN n) := fun w' h => rfree_any a h hg
  have HFx : Hid (∀ w', RefAt w' b g cap Q → Calls Tryz.prog 57 #[.pointer (some ⟨b, 0, none⟩), .int .i64 x] w' fun e w'' => e = .returned (.bool (freeB (lsts Q).flatten x)) ∧ ∃ n, w'' = w'.drewN n) := fun w' h => rfree_any x h hg
  have HD : Hid (∀ w', RefAt w' b g cap Q → Calls Tryz.prog 97 #[.pointer (some ⟨b, 0, none⟩), .int .i64 a, .int .i64 x] w' fun e w'' => e = .returned (.int .i64 (farZ (Pure.wid (lsts Q)) (lsts Q).flatten.length a x)) ∧ ∃ n, w'' = w'.drewN n) := fun w' h => rfar_any a x h hg
  have hC := hg.lo
  have hC2 := hg.hi
  have hlen := hg.small
  have hra : freeB (lsts Q).flatten a = true → 0 ≤ a ∧ a < ((lsts Q).flatten.length : Int) := free_range
  have hrx : freeB (lsts Q).flatten x = true → 0 ≤ x ∧ x < ((lsts Q).flatten.length : Int) := free_range
  clear h hg
  unfold edgeB
  generalize ((kindB (lsts Q).flatten a).toNat : Int) = ka at *
  generalize ((kindB (lsts Q).flatten x).toNat : Int) = kx at *
  generalize freeB (lsts Q).flatten a = fa at *
  generalize freeB (lsts Q).flatten x = fx at *
  generalize Pure.wid (lsts Q) = C at *
  generalize (lsts Q).flatten.length = N at *
  generalize farZ C N a x = d at *
  cases fa
  · simp only [Bool.false_and]
    clear hra hrx
    go_enter Tryz.func70, Tryz.ntmps70
    go_wp2_with (go_at_call 57; (with_reducible refine (HFa.out _ HR.out).mono ?_); rintro e w' ⟨rfl, n, rfl⟩)
    go_ret
    exact ⟨rfl, n, rfl⟩
  cases fx
  · simp only [Bool.false_and, Bool.and_false]
    clear hra hrx
    go_enter Tryz.func70, Tryz.ntmps70
    go_wp2_with (first
      | (go_at_call 57; (with_reducible refine (HFa.out _ HR.out).mono ?_); rintro e w' ⟨rfl, n, rfl⟩)
      | (go_at_call 57; (with_reducible refine (HFx.out _ (HR.out.drewN n)).mono ?_); rintro e w' ⟨rfl, n2, rfl⟩))
    go_ret
    exact ⟨rfl, _, rfl⟩
  by_cases hd : d = 1
  · subst hd
    obtain ⟨ha0, haN⟩ := hra rfl
    obtain ⟨hx0, hxN⟩ := hrx rfl
    clear hra hrx
    obtain ⟨k, rfl⟩ := Int.eq_ofNat_of_zero_le ha0
    obtain ⟨l, rfl⟩ := Int.eq_ofNat_of_zero_le hx0
    have K1 : (l : Int) = (k : Int) - 1 ∧ l / C = k / C → dirK C k l = 1 := fun h => by unfold dirK; rw [if_pos]; simpa using h
    have K0 : ¬ ((l : Int) = (k : Int) - 1 ∧ l / C = k / C) → l / C < k / C → dirK C k l = 0 := fun h h2 => by unfold dirK; rw [if_neg (by simpa using h), if_pos (by simpa using h2)]
    have K3 : ¬ ((l : Int) = (k : Int) - 1 ∧ l / C = k / C) → k / C < l / C → dirK C k l = 3 := fun h h2 => by unfold dirK; rw [if_neg (by simpa using h), if_neg (by simp only [Int.toNat_natCast]; omega), if_pos (by simpa using h2)]
    have K2 : ¬ ((l : Int) = (k : Int) - 1 ∧ l / C = k / C) → l / C = k / C → dirK C k l = 2 := fun h h2 => by unfold dirK; rw [if_neg (by simpa using h), if_neg (by simp only [Int.toNat_natCast]; omega), if_neg (by simp only [Int.toNat_natCast]; omega)]
    simp only [Bool.true_and, Bool.and_true, beq_self_eq_true]
    generalize dirK C k l = K at *
    have a1 : k / C ≤ k := Nat.div_le_self _ _
    have a3 : l / C ≤ l := Nat.div_le_self _ _
    have q1 : (k : Int) / (C : Int) = ((k / C : Nat) : Int) := by omega
    have q2 : (k : Int).tdiv (C : Int) = ((k / C : Nat) : Int) := by rw [Int.tdiv_eq_ediv_of_nonneg (by omega)]; exact q1
    have r1 : (l : Int) / (C : Int) = ((l / C : Nat) : Int) := by omega
    have r2 : (l : Int).tdiv (C : Int) = ((l / C : Nat) : Int) := by rw [Int.tdiv_eq_ediv_of_nonneg (by omega)]; exact r1
    have hmono0 : (l : Int) = (k : Int) - 1 → l / C ≤ k / C := fun h => Nat.div_le_div_right (by omega)
    generalize k / C = k1 at *
    generalize l / C = l1 at *
    have i3 : IntKind.i64.wrap (k1 : Int) = (k1 : Int) := IntWalk.i64_in _ (by omega)
    have i6 : IntKind.i64.wrap (l1 : Int) = (l1 : Int) := IntWalk.i64_in _ (by omega)
    have i5 : ((C : Int) == 0) = false := by rw [beq_eq_false_iff_ne]; omega
    have i7 : IntKind.i64.wrap ((k : Int) - 1) = (k : Int) - 1 := IntWalk.i64_in _ (by omega)
    have hmono : (l : Int) = (k : Int) - 1 → l1 ≤ k1 := hmono0
    by_cases h1 : (l : Int) = (k : Int) - 1
    · have b1 : ((l : Int) == (k : Int) - 1) = true := by simp [h1]
      by_cases h2 : l1 = k1
      · have b2 : ((l1 : Int) == (k1 : Int)) = true := by simp [h2]
        have hK : K = 1 := K1 ⟨h1, h2⟩
        subst hK
        have e2 : mkK 1 = 60 := rfl
        have e3 : agK 1 = 62 := rfl
        rw [e2, e3]
        clear e2 e3 K0 K1 K2 K3 hmono h1 h2

        cases hA : (ka == 46)
        all_goals cases hB : (ka == 60)
        all_goals
          go_enter Tryz.func70, Tryz.ntmps70
          go_wp2_with (first
            | (go_at_call 57; (with_reducible refine (HFa.out _ HR.out).mono ?_); rintro e w' ⟨rfl, n, rfl⟩)
            | (go_at_call 57; (with_reducible refine (HFx.out _ (HR.out.drewN n)).mono ?_); rintro e w' ⟨rfl, n2, rfl⟩)
            | (go_at_call 97; (with_reducible refine (HD.out _ (HR.out.drewN (n + n2))).mono ?_); rintro e w' ⟨rfl, n3, rfl⟩))
          have HR0 : Hid (RefAt (w.drewN (n + n2 + n3)) b g cap Q) := HR.out.drewN _
          have HX0 : Hid (∀ m, ∃ x, (w.drewN (n + n2 + n3)).drewN m = w.drewN x) := fun m => ⟨n + n2 + n3 + m, by rw [World.drewN_drewN]⟩
          generalize w.drewN (n + n2 + n3) = w0 at HR0 HX0 ⊢
          clear HFa HFx HD

          go_quiet ((go_at_call 98; with_reducible exact Calls.quiet_of_same (HW.out _ (HR0.out.drewN _))))
          have HR1 : Hid (RefAt (w0.drewN nq) b g cap Q) := HR0.out.drewN _
          have HX1 : Hid (∀ m, ∃ x, (w0.drewN nq).drewN m = w.drewN x) := fun m => by
            obtain ⟨y, hy⟩ := HX0.out (nq + m)
            exact ⟨y, by rw [World.drewN_drewN, hy]⟩
          generalize w0.drewN nq = w1 at HR1 HX1 ⊢
          clear HR0 HX0

        all_goals
          go_wp2_with (first
            | (go_at_call 91; (with_reducible refine (HKa.out _ HR1.out).mono ?_); rintro e w' ⟨rfl, n4, rfl⟩)
            | (go_at_call 91; (with_reducible refine (HKx.out _ (HR1.out.drewN n4)).mono ?_); rintro e w' ⟨rfl, n5, rfl⟩))
        all_goals
          go_ret
          exact ⟨by simp [hA, hB], HX1.out _⟩
      · have h3 : l1 < k1 := by have := hmono h1; omega
        have b2 : ((l1 : Int) == (k1 : Int)) = false := by simp; omega
        have b3 : (decide (l1 < k1)) = true := by simp; omega
        have hK : K = 0 := K0 (fun e => h2 e.2) h3
        subst hK
        have e2 : mkK 0 = 94 := rfl
        have e3 : agK 0 = 118 := rfl
        rw [e2, e3]
        clear e2 e3 K0 K1 K2 K3 hmono h1 h2 h3

        cases hA : (ka == 46)
        all_goals cases hB : (ka == 94)
        all_goals
          go_enter Tryz.func70, Tryz.ntmps70
          go_wp2_with (first
            | (go_at_call 57; (with_reducible refine (HFa.out _ HR.out).mono ?_); rintro e w' ⟨rfl, n, rfl⟩)
            | (go_at_call 57; (with_reducible refine (HFx.out _ (HR.out.drewN n)).mono ?_); rintro e w' ⟨rfl, n2, rfl⟩)
            | (go_at_call 97; (with_reducible refine (HD.out _ (HR.out.drewN (n + n2))).mono ?_); rintro e w' ⟨rfl, n3, rfl⟩))
          have HR0 : Hid (RefAt (w.drewN (n + n2 + n3)) b g cap Q) := HR.out.drewN _
          have HX0 : Hid (∀ m, ∃ x, (w.drewN (n + n2 + n3)).drewN m = w.drewN x) := fun m => ⟨n + n2 + n3 + m, by rw [World.drewN_drewN]⟩
          generalize w.drewN (n + n2 + n3) = w0 at HR0 HX0 ⊢
          clear HFa HFx HD

          go_quiet ((go_at_call 98; with_reducible exact Calls.quiet_of_same (HW.out _ (HR0.out.drewN _))))
          have HR1 : Hid (RefAt (w0.drewN nq) b g cap Q) := HR0.out.drewN _
          have HX1 : Hid (∀ m, ∃ x, (w0.drewN nq).drewN m = w.drewN x) := fun m => by
            obtain ⟨y, hy⟩ := HX0.out (nq + m)
            exact ⟨y, by rw [World.drewN_drewN, hy]⟩
          generalize w0.drewN nq = w1 at HR1 HX1 ⊢
          clear HR0 HX0
          go_wp2

          go_quiet ((go_at_call 98; with_reducible exact Calls.quiet_of_same (HW.out _ (HR1.out.drewN _))))
          have HR2 : Hid (RefAt (w1.drewN nq) b g cap Q) := HR1.out.drewN _
          have HX2 : Hid (∀ m, ∃ x, (w1.drewN nq).drewN m = w.drewN x) := fun m => by
            obtain ⟨y, hy⟩ := HX1.out (nq + m)
            exact ⟨y, by rw [World.drewN_drewN, hy]⟩
          generalize w1.drewN nq = w2 at HR2 HX2 ⊢
          clear HR1 HX1

        all_goals
          go_wp2_with (first
            | (go_at_call 91; (with_reducible refine (HKa.out _ HR2.out).mono ?_); rintro e w' ⟨rfl, n4, rfl⟩)
            | (go_at_call 91; (with_reducible refine (HKx.out _ (HR2.out.drewN n4)).mono ?_); rintro e w' ⟨rfl, n5, rfl⟩))
        all_goals
          go_ret
          exact ⟨by simp [hA, hB], HX2.out _⟩
    · have b1 : ((l : Int) == (k : Int) - 1) = false := by simp [h1]
      have e1 : ¬ ((l : Int) = (k : Int) - 1 ∧ l1 = k1) := fun e => h1 e.1
      rcases Nat.lt_trichotomy l1 k1 with h3 | h3 | h3
      · have b3 : (decide (l1 < k1)) = true := by simp; omega
        have hK : K = 0 := K0 e1 h3
        subst hK
        have e2 : mkK 0 = 94 := rfl
        have e3 : agK 0 = 118 := rfl
        rw [e2, e3]
        clear e2 e3 K0 K1 K2 K3 hmono h1 h3 e1

        cases hA : (ka == 46)
        all_goals cases hB : (ka == 94)
        all_goals
          go_enter Tryz.func70, Tryz.ntmps70
          go_wp2_with (first
            | (go_at_call 57; (with_reducible refine (HFa.out _ HR.out).mono ?_); rintro e w' ⟨rfl, n, rfl⟩)
            | (go_at_call 57; (with_reducible refine (HFx.out _ (HR.out.drewN n)).mono ?_); rintro e w' ⟨rfl, n2, rfl⟩)
            | (go_at_call 97; (with_reducible refine (HD.out _ (HR.out.drewN (n + n2))).mono ?_); rintro e w' ⟨rfl, n3, rfl⟩))
          have HR0 : Hid (RefAt (w.drewN (n + n2 + n3)) b g cap Q) := HR.out.drewN _
          have HX0 : Hid (∀ m, ∃ x, (w.drewN (n + n2 + n3)).drewN m = w.drewN x) := fun m => ⟨n + n2 + n3 + m, by rw [World.drewN_drewN]⟩
          generalize w.drewN (n + n2 + n3) = w0 at HR0 HX0 ⊢
          clear HFa HFx HD

          go_quiet ((go_at_call 98; with_reducible exact Calls.quiet_of_same (HW.out _ (HR0.out.drewN _))))
          have HR1 : Hid (RefAt (w0.drewN nq) b g cap Q) := HR0.out.drewN _
          have HX1 : Hid (∀ m, ∃ x, (w0.drewN nq).drewN m = w.drewN x) := fun m => by
            obtain ⟨y, hy⟩ := HX0.out (nq + m)
            exact ⟨y, by rw [World.drewN_drewN, hy]⟩
          generalize w0.drewN nq = w1 at HR1 HX1 ⊢
          clear HR0 HX0
          go_wp2

          go_quiet ((go_at_call 98; with_reducible exact Calls.quiet_of_same (HW.out _ (HR1.out.drewN _))))
          have HR2 : Hid (RefAt (w1.drewN nq) b g cap Q) := HR1.out.drewN _
          have HX2 : Hid (∀ m, ∃ x, (w1.drewN nq).drewN m = w.drewN x) := fun m => by
            obtain ⟨y, hy⟩ := HX1.out (nq + m)
            exact ⟨y, by rw [World.drewN_drewN, hy]⟩
          generalize w1.drewN nq = w2 at HR2 HX2 ⊢
          clear HR1 HX1

        all_goals
          go_wp2_with (first
            | (go_at_call 91; (with_reducible refine (HKa.out _ HR2.out).mono ?_); rintro e w' ⟨rfl, n4, rfl⟩)
            | (go_at_call 91; (with_reducible refine (HKx.out _ (HR2.out.drewN n4)).mono ?_); rintro e w' ⟨rfl, n5, rfl⟩))
        all_goals
          go_ret
          exact ⟨by simp [hA, hB], HX2.out _⟩
      · have b3 : (decide (l1 < k1)) = false := by simp; omega
        have b4 : (decide (k1 < l1)) = false := by simp; omega
        have hK : K = 2 := K2 e1 h3
        subst hK
        have e2 : mkK 2 = 62 := rfl
        have e3 : agK 2 = 60 := rfl
        rw [e2, e3]
        clear e2 e3 K0 K1 K2 K3 hmono h1 h3 e1

        cases hA : (ka == 46)
        all_goals cases hB : (ka == 62)
        all_goals
          go_enter Tryz.func70, Tryz.ntmps70
          go_wp2_with (first
            | (go_at_call 57; (with_reducible refine (HFa.out _ HR.out).mono ?_); rintro e w' ⟨rfl, n, rfl⟩)
            | (go_at_call 57; (with_reducible refine (HFx.out _ (HR.out.drewN n)).mono ?_); rintro e w' ⟨rfl, n2, rfl⟩)
            | (go_at_call 97; (with_reducible refine (HD.out _ (HR.out.drewN (n + n2))).mono ?_); rintro e w' ⟨rfl, n3, rfl⟩))
          have HR0 : Hid (RefAt (w.drewN (n + n2 + n3)) b g cap Q) := HR.out.drewN _
          have HX0 : Hid (∀ m, ∃ x, (w.drewN (n + n2 + n3)).drewN m = w.drewN x) := fun m => ⟨n + n2 + n3 + m, by rw [World.drewN_drewN]⟩
          generalize w.drewN (n + n2 + n3) = w0 at HR0 HX0 ⊢
          clear HFa HFx HD

          go_quiet ((go_at_call 98; with_reducible exact Calls.quiet_of_same (HW.out _ (HR0.out.drewN _))))
          have HR1 : Hid (RefAt (w0.drewN nq) b g cap Q) := HR0.out.drewN _
          have HX1 : Hid (∀ m, ∃ x, (w0.drewN nq).drewN m = w.drewN x) := fun m => by
            obtain ⟨y, hy⟩ := HX0.out (nq + m)
            exact ⟨y, by rw [World.drewN_drewN, hy]⟩
          generalize w0.drewN nq = w1 at HR1 HX1 ⊢
          clear HR0 HX0
          go_wp2

          go_quiet ((go_at_call 98; with_reducible exact Calls.quiet_of_same (HW.out _ (HR1.out.drewN _))))
          have HR2 : Hid (RefAt (w1.drewN nq) b g cap Q) := HR1.out.drewN _
          have HX2 : Hid (∀ m, ∃ x, (w1.drewN nq).drewN m = w.drewN x) := fun m => by
            obtain ⟨y, hy⟩ := HX1.out (nq + m)
            exact ⟨y, by rw [World.drewN_drewN, hy]⟩
          generalize w1.drewN nq = w2 at HR2 HX2 ⊢
          clear HR1 HX1
          go_wp2

          go_quiet ((go_at_call 98; with_reducible exact Calls.quiet_of_same (HW.out _ (HR2.out.drewN _))))
          have HR3 : Hid (RefAt (w2.drewN nq) b g cap Q) := HR2.out.drewN _
          have HX3 : Hid (∀ m, ∃ x, (w2.drewN nq).drewN m = w.drewN x) := fun m => by
            obtain ⟨y, hy⟩ := HX2.out (nq + m)
            exact ⟨y, by rw [World.drewN_drewN, hy]⟩
          generalize w2.drewN nq = w3 at HR3 HX3 ⊢
          clear HR2 HX2

        all_goals
          go_wp2_with (first
            | (go_at_call 91; (with_reducible refine (HKa.out _ HR3.out).mono ?_); rintro e w' ⟨rfl, n4, rfl⟩)
            | (go_at_call 91; (with_reducible refine (HKx.out _ (HR3.out.drewN n4)).mono ?_); rintro e w' ⟨rfl, n5, rfl⟩))
        all_goals
          go_ret
          exact ⟨by simp [hA, hB], HX3.out _⟩
      · have b3 : (decide (l1 < k1)) = false := by simp; omega
        have b4 : (decide (k1 < l1)) = true := by simp; omega
        have hK : K = 3 := K3 e1 h3
        subst hK
        have e2 : mkK 3 = 118 := rfl
        have e3 : agK 3 = 94 := rfl
        rw [e2, e3]
        clear e2 e3 K0 K1 K2 K3 hmono h1 h3 e1

        cases hA : (ka == 46)
        all_goals cases hB : (ka == 118)
        all_goals
          go_enter Tryz.func70, Tryz.ntmps70
          go_wp2_with (first
            | (go_at_call 57; (with_reducible refine (HFa.out _ HR.out).mono ?_); rintro e w' ⟨rfl, n, rfl⟩)
            | (go_at_call 57; (with_reducible refine (HFx.out _ (HR.out.drewN n)).mono ?_); rintro e w' ⟨rfl, n2, rfl⟩)
            | (go_at_call 97; (with_reducible refine (HD.out _ (HR.out.drewN (n + n2))).mono ?_); rintro e w' ⟨rfl, n3, rfl⟩))
          have HR0 : Hid (RefAt (w.drewN (n + n2 + n3)) b g cap Q) := HR.out.drewN _
          have HX0 : Hid (∀ m, ∃ x, (w.drewN (n + n2 + n3)).drewN m = w.drewN x) := fun m => ⟨n + n2 + n3 + m, by rw [World.drewN_drewN]⟩
          generalize w.drewN (n + n2 + n3) = w0 at HR0 HX0 ⊢
          clear HFa HFx HD

          go_quiet ((go_at_call 98; with_reducible exact Calls.quiet_of_same (HW.out _ (HR0.out.drewN _))))
          have HR1 : Hid (RefAt (w0.drewN nq) b g cap Q) := HR0.out.drewN _
          have HX1 : Hid (∀ m, ∃ x, (w0.drewN nq).drewN m = w.drewN x) := fun m => by
            obtain ⟨y, hy⟩ := HX0.out (nq + m)
            exact ⟨y, by rw [World.drewN_drewN, hy]⟩
          generalize w0.drewN nq = w1 at HR1 HX1 ⊢
          clear HR0 HX0
          go_wp2

          go_quiet ((go_at_call 98; with_reducible exact Calls.quiet_of_same (HW.out _ (HR1.out.drewN _))))
          have HR2 : Hid (RefAt (w1.drewN nq) b g cap Q) := HR1.out.drewN _
          have HX2 : Hid (∀ m, ∃ x, (w1.drewN nq).drewN m = w.drewN x) := fun m => by
            obtain ⟨y, hy⟩ := HX1.out (nq + m)
            exact ⟨y, by rw [World.drewN_drewN, hy]⟩
          generalize w1.drewN nq = w2 at HR2 HX2 ⊢
          clear HR1 HX1
          go_wp2

          go_quiet ((go_at_call 98; with_reducible exact Calls.quiet_of_same (HW.out _ (HR2.out.drewN _))))
          have HR3 : Hid (RefAt (w2.drewN nq) b g cap Q) := HR2.out.drewN _
          have HX3 : Hid (∀ m, ∃ x, (w2.drewN nq).drewN m = w.drewN x) := fun m => by
            obtain ⟨y, hy⟩ := HX2.out (nq + m)
            exact ⟨y, by rw [World.drewN_drewN, hy]⟩
          generalize w2.drewN nq = w3 at HR3 HX3 ⊢
          clear HR2 HX2

        all_goals
          go_wp2_with (first
            | (go_at_call 91; (with_reducible refine (HKa.out _ HR3.out).mono ?_); rintro e w' ⟨rfl, n4, rfl⟩)
            | (go_at_call 91; (with_reducible refine (HKx.out _ (HR3.out.drewN n4)).mono ?_); rintro e w' ⟨rfl, n5, rfl⟩))
        all_goals
          go_ret
          exact ⟨by simp [hA, hB], HX3.out _⟩
  · have hdb : (d == 1) = false := by simp [hd]
    simp only [hdb, Bool.false_and, Bool.and_false]
    clear hra hrx
    go_enter Tryz.func70, Tryz.ntmps70
    go_wp2_with (first
      | (go_at_call 57; (with_reducible refine (HFa.out _ HR.out).mono ?_); rintro e w' ⟨rfl, n, rfl⟩)
      | (go_at_call 57; (with_reducible refine (HFx.out _ (HR.out.drewN n)).mono ?_); rintro e w' ⟨rfl, n2, rfl⟩)
      | (go_at_call 97; (with_reducible refine (HD.out _ (HR.out.drewN (n + n2))).mono ?_); rintro e w' ⟨rfl, n3, rfl⟩))
    go_ret
    exact ⟨rfl, _, rfl⟩
end Go.Proofs.YtekhlaodlagbdaaGreatDoor
