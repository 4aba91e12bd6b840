/-
  wire.Same: slices.Equal of claims, and two messages.
-/
import Derived.Test.YtmfbokaaoffdnaaDoorWrK
import Derived.Test.YtmfbokaaoffdnaaDoorWr2
namespace Go.Proofs.YtmfbokaaoffdnaaDoor
set_option maxRecDepth 100000
set_option linter.unusedSimpArgs false
open Go Go.RowKit Wr

set_option maxHeartbeats 4000000 in
theorem sequal_any {w : World} (l1 l2 : List (Int × Nat)) {A B : Option Addr} (ca cb : Nat) (hA : ClaimsAt w A l1) (hB : ClaimsAt w B l2) (hl : l1.length ≤ 100000) (hl2 : l2.length ≤ 100000) :
    Calls Tryd.prog 30 #[.slice A l1.length ca, .slice B l2.length cb] w fun e w' => e = .returned (.bool (decide (l1 = l2))) ∧ Below w.heap.size w w' := by
  obtain ⟨P, hP⟩ : ∃ P : Ending → World → Prop, P = fun e w' => e = .returned (.bool (decide (l1 = l2))) ∧ Below w.heap.size w w' := ⟨_, rfl⟩
  have HQ1 : Hid (l1 ≠ l2 → ∀ w', Below w.heap.size w w' → P (.returned (.bool false)) w') := by rw [hP]; exact fun h w' hb => ⟨by rw [decide_eq_false h], hb⟩
  have HQ2 : Hid (l1 = l2 → ∀ w', Below w.heap.size w w' → P (.returned (.bool true)) w') := by rw [hP]; exact fun h w' hb => ⟨by rw [decide_eq_true h], hb⟩
  rw [← hP]
  clear hP
  have HCA : Hid (∀ W, Below w.heap.size w W → ClaimsAt W A l1) := fun W h => hA.below h
  have HCB : Hid (∀ W, Below w.heap.size w W → ClaimsAt W B l2) := fun W h => hB.below h
  obtain ⟨n1, hn1⟩ : ∃ n1, n1 = l1.length := ⟨_, rfl⟩
  obtain ⟨n2, hn2⟩ : ∃ n2, n2 = l2.length := ⟨_, rfl⟩
  have HN1 := Lib.hid hn1
  have HN2 := Lib.hid hn2
  rw [← hn1, ← hn2]
  rw [← hn1] at hl
  rw [← hn2] at hl2
  clear hn1 hn2 hA hB
  by_cases hl12 : n1 ≠ n2
  · have HF := Lib.hid (HQ1.out (fun e => hl12 (by rw [HN1.out, HN2.out, e])))
    have d1 : ((n1 : Int) != (n2 : Int)) = true := by simp; omega
    have d2 : (n1 != n2) = true := by simpa using hl12
    go_enter Tryd.func30, Tryd.ntmps30
    go_wp2
    first | exact HF.out _ (Below.refl _ _) | (go_ret; exact HF.out _ (Below.refl _ _))
  replace hl12 := Classical.not_not.1 hl12
  subst hl12
  have d1 : ((n1 : Int) != (n1 : Int)) = false := by simp
  go_enter Tryd.func30, Tryd.ntmps30
  go_wp2_with fail
  clear d1 hl2
  go_loopw [13, 5] (fun v _ wr => ∃ k : Nat, k ≤ n1 ∧ v = .int .i64 (k : Int) ∧ l1.take k = l2.take k ∧ Below w.heap.size w wr) (fun v _ _ => n1 - (intOf v).toNat)
  case atStart => exact ⟨0, Nat.zero_le _, rfl, rfl, Below.refl _ _⟩
  case round =>
    obtain ⟨k, hk, rfl, he, hw⟩ := hrel
    have HE := Lib.hid he
    have HW := Lib.hid hw
    clear he hw
    by_cases hlt : k < n1
    · have hla : k < l1.length := by rw [← HN1.out]; exact hlt
      have hlb : k < l2.length := by rw [← HN2.out]; exact hlt
      obtain ⟨a, ha, u1, u2⟩ := HCA.out _ HW.out k hla
      obtain ⟨b, hb, v1, v2⟩ := HCB.out _ HW.out k hlb
      have HT : Hid (l1.getD k (0, 0) = l2.getD k (0, 0) → l1.take (k + 1) = l2.take (k + 1)) := fun h => take_snoc_c hla hlb HE.out h
      have HF : Hid (l1.getD k (0, 0) ≠ l2.getD k (0, 0) → l1 ≠ l2) := fun h e => h (by rw [e])
      clear hla hlb
      subst ha
      subst hb
      generalize l1.getD k (0, 0) = x at *
      generalize l2.getD k (0, 0) = y at *
      obtain ⟨x1, x2⟩ := x
      obtain ⟨y1, y2⟩ := y
      simp only at u1 u2 v1 v2
      have k0 : (0 : Int) ≤ (k : Int) := by omega
      have k1' : (k : Int) < (n1 : Int) := by omega
      by_cases hx : x1 = y1
      · subst hx
        by_cases hy : x2 = y2
        · subst hy
          have HT2 := Lib.hid (HT.out rfl)
          clear HT HF
          go_wp2
          go_quiet (fail)
          go_wp2
          go_roundw
          case rel => exact ⟨k + 1, by omega, by go_num, HT2.out, belowN HW.out nq⟩
          case measure => simp [intOf]; omega
        · have HF2 := Lib.hid (HF.out (fun e => hy (congrArg Prod.snd e)))
          have d1 : ((x2 : Int) == (y2 : Int)) = false := by simp; omega
          have d2 : (x2 == y2) = false := by simpa using hy
          clear HT HF
          go_wp2
          go_quiet (fail)
          go_wp2
          exact HQ1.out HF2.out _ (belowN HW.out nq)
      · have HF2 := Lib.hid (HF.out (fun e => hx (congrArg Prod.fst e)))
        have d1 : (x1 == y1) = false := by simpa using hx
        clear HT HF
        go_wp2
        go_quiet (fail)
        go_wp2
        exact HQ1.out HF2.out _ (belowN HW.out nq)
    · obtain rfl : k = n1 := by omega
      have HF2 : Hid (l1 = l2) := by
        have := HE.out
        have e1 := List.take_length (l := l1)
        have e2 := List.take_length (l := l2)
        rw [← HN1.out] at e1
        rw [← HN2.out] at e2
        rw [e1, e2] at this
        exact this
      go_wp2
      exact HQ2.out HF2.out _ HW.out
end Go.Proofs.YtmfbokaaoffdnaaDoor
