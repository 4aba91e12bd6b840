/-
  The document's MayMessage: kinds that are none, fields out of range.
-/
import Derived.Test.YtmfbokaaoffdnaaDoorWrT
import Derived.Test.YtmfbokaaoffdnaaDoorWrJ0
namespace Go.Proofs.YtmfbokaaoffdnaaDoor
set_option maxRecDepth 100000
set_option linter.unusedSimpArgs false
open Go Go.RowKit Wr

/-- All fields within their bounds, named or not. -/
def docR (c pr h o t : Int) (n : Nat) : Prop := 0 ≤ c ∧ c ≤ 1023 ∧ 0 ≤ pr ∧ pr ≤ 15 ∧ 0 ≤ h ∧ h ≤ 64 ∧ 0 ≤ o ∧ o ≤ 63 ∧ -1 ≤ t ∧ t ≤ 63 ∧ n ≤ 16

set_option maxHeartbeats 4000000 in
theorem rmay_kind (w : World) (k c : Int) (g s : Nat) (pr h o t : Int) (A : Option Addr) (n cap : Nat) (hk : ¬ (1 ≤ k ∧ k ≤ 11)) :
    Calls Tryd.prog 6 #[.agg #[.int .i64 k, .int .i64 c, .int .u32 (g : Nat), .int .u64 (s : Nat), .int .i64 pr, .int .i64 h, .int .i64 o, .int .i64 t, .slice A n cap]] w fun e w' => e = .returned (.bool false) ∧ Below w.heap.size w w' := by
  obtain ⟨P, hP⟩ : ∃ P : Ending → World → Prop, P = fun e w' => e = .returned (.bool false) ∧ Below w.heap.size w w' := ⟨_, rfl⟩
  have HQ : Hid (∀ w', Below w.heap.size w w' → P (.returned (.bool false)) w') := by rw [hP]; exact fun w' h => ⟨rfl, h⟩
  rw [← hP]
  clear hP
  have HN : Hid (∀ o, Below w.heap.size w (w.alloc o)) := fun o => (Below.refl _ w).alloc (Nat.le_refl _) o
  have hw : wordI k = .string ⟨#[]⟩ := by
    unfold wordI
    by_cases h : 0 ≤ k ∧ k < 12
    · have h0 : k = 0 := by omega
      subst h0; rfl
    · rw [if_neg h]
  have RN : Hid (∀ W, Calls Tryd.prog 16 #[.int .i64 k] W fun e w' => e = .returned (.string ⟨#[]⟩) ∧ w' = W) := fun W => by
    have := rname_any W k
    rwa [hw] at this
  clear hk hw
  go_enter Tryd.func6, Tryd.ntmps6
  go_wp2_with (first | ((with_reducible refine (RN.out _).mono ?_); rintro e w' ⟨rfl, rfl⟩))
  first | exact HQ.out _ (HN.out _) | (go_ret; exact HQ.out _ (HN.out _))

set_option maxHeartbeats 4000000 in
theorem rmay_range (w : World) (k c : Int) (g s : Nat) (pr h o t : Int) (A : Option Addr) (n cap : Nat) (hk : 1 ≤ k ∧ k ≤ 11) (hR : ¬ docR c pr h o t n) :
    Calls Tryd.prog 6 #[.agg #[.int .i64 k, .int .i64 c, .int .u32 (g : Nat), .int .u64 (s : Nat), .int .i64 pr, .int .i64 h, .int .i64 o, .int .i64 t, .slice A n cap]] w fun e w' => e = .returned (.bool false) ∧ Below w.heap.size w w' := by
  obtain ⟨P, hP⟩ : ∃ P : Ending → World → Prop, P = fun e w' => e = .returned (.bool false) ∧ Below w.heap.size w w' := ⟨_, rfl⟩
  have HQ : Hid (∀ w', Below w.heap.size w w' → P (.returned (.bool false)) w') := by rw [hP]; exact fun w' h => ⟨rfl, h⟩
  rw [← hP]
  clear hP
  have HN : Hid (∀ o, Below w.heap.size w (w.alloc o)) := fun o => (Below.refl _ w).alloc (Nat.le_refl _) o
  have HX : Hid (¬ docR c pr h o t n) := hR
  have hw : ∃ a u, wordI k = .string ⟨(a :: u).toArray⟩ := by
    have := word_some (k := k) (decide_eq_true hk)
    exact this
  obtain ⟨a, u, hw⟩ := hw
  have RN : Hid (∀ W, Calls Tryd.prog 16 #[.int .i64 k] W fun e w' => e = .returned (.string ⟨(a :: u).toArray⟩) ∧ w' = W) := fun W => by
    have := rname_any W k
    rwa [hw] at this
  obtain ⟨S, hS⟩ : ∃ S, S = strN (nmI k) := ⟨_, rfl⟩
  have RM : Hid (∀ W, Calls Tryd.prog 19 #[.int .i64 k] W fun e w' => e = .returned (.string S) ∧ w' = W) := fun W => by
    have := rnames_any W k
    unfold nmV at this
    rwa [← hS] at this
  obtain ⟨S0, hS0⟩ : ∃ S0 : ByteArray, S0 = ⟨(a :: u).toArray⟩ := ⟨_, rfl⟩
  have hne : S0.toList.isEmpty = false := by
    have e : (S0.toList == (⟨#[]⟩ : ByteArray).toList) = false := by
      rw [← beq_toListBytes, hS0]
      show ((a :: u).toArray == #[]) = false
      simp
    cases h : S0.toList with
    | nil => rw [h] at e; exact absurd e (by decide +kernel)
    | cons => rfl
  rw [← hS0] at RN
  clear hk hR hw hS hS0
  go_enter Tryd.func6, Tryd.ntmps6
  go_wp2_with (first | ((with_reducible refine (RN.out _).mono ?_); rintro e w' ⟨rfl, rfl⟩) | ((with_reducible refine (RM.out _).mono ?_); rintro e w' ⟨rfl, rfl⟩))
  all_goals first | exact HQ.out _ (HN.out _) | (exfalso; exact HX.out (by unfold docR; omega))

/-- What the document asks of the claims behind so many. -/
def ClI (l : List (Int × Nat)) (i : Nat) (L : Int) : Prop := i ≤ l.length ∧ rise 0 l = rise L (l.drop i) ∧ 0 ≤ L ∧ (i = 0 → L = 0) ∧ (0 < i → L = (l.getD (i - 1) (0, 0)).1 + 1)
theorem cl_ok {l : List (Int × Nat)} {i : Nat} {L : Int} (h : ClI l i L) (hi : i < l.length) (h1 : L ≤ (l.getD i (0, 0)).1) (h2 : (l.getD i (0, 0)).1 ≤ 1023) : ClI l (i + 1) ((l.getD i (0, 0)).1 + 1) := by
  obtain ⟨a, b, c, d, e⟩ := h
  refine ⟨hi, ?_, by omega, fun h => by omega, fun _ => rfl⟩
  rw [b, rise_drop hi, decide_eq_true (by omega)]
  rfl
theorem cl_bad {l : List (Int × Nat)} {i : Nat} {L : Int} (h : ClI l i L) (hi : i < l.length) (h1 : ¬ (L ≤ (l.getD i (0, 0)).1 ∧ (l.getD i (0, 0)).1 ≤ 1023)) : rise 0 l = false := by
  rw [h.2.1, rise_drop hi, decide_eq_false (by omega)]
  rfl
theorem cl_end {l : List (Int × Nat)} {i : Nat} {L : Int} (h : ClI l i L) (hi : i = l.length) : rise 0 l = true := by
  rw [h.2.1, hi, rise_end]
end Go.Proofs.YtmfbokaaoffdnaaDoor
