/-
  Where a cell's claim stands: find.
-/
import Derived.Test.YtijhkjegpcmjoaaCl0
import Derived.Shelf.RegionOpenPlain
import Derived.Deep.LoopGhost
import Derived.Deep.RegionLaw
import Derived.Deep.RegionHeld3
import Derived.Lib.Walk
import Derived.Sort.WalkB12
import Derived.Lib.SliceRun
import Derived.Lib.Hide
namespace Go.Proofs.Ytijhkjegpcmjoaa
set_option maxRecDepth 100000
set_option linter.unusedSimpArgs false
open Go Go.RowKit Cl
attribute [local go_sem] Oper.semAt_some

theorem bel_drewN {B : Nat} {w w' : World} (h : Below B w w') (k : Nat) : Below B w (w'.drewN k) := ⟨h.os, h.tape, h.output, h.size, h.block⟩
def cmpZ (a b : Int) : Int := if a < b then -1 else if b < a then 1 else 0
theorem nan_any (W : World) (a : Int) : Calls Try.prog 41 #[.int .i64 a] W fun e w' => e = .returned (.bool false) ∧ w' = W := by
  have d0 : (a != a) = false := by simp
  go_enter Try.func41, Try.ntmps41
  go_wp2
  go_ret
  exact ⟨rfl, rfl⟩
theorem ccmp_any (W : World) (a b : Int) : Calls Try.prog 39 #[.int .i64 a, .int .i64 b] W fun e w' => e = .returned (.int .i64 (cmpZ a b)) ∧ w' = W := by
  have HN1 := nan_any W a
  have HN2 := nan_any W b
  have e1 : a < b → cmpZ a b = -1 := fun h => by unfold cmpZ; rw [if_pos h]
  have e2 : a = b → cmpZ a b = 0 := fun h => by subst h; unfold cmpZ; simp
  have e3 : b < a → cmpZ a b = 1 := fun h => by unfold cmpZ; rw [if_neg (by omega), if_pos h]
  rcases Int.lt_trichotomy a b with h | h | h
  · rw [e1 h]
    clear e1 e2 e3
    go_enter Try.func39, Try.ntmps39
    go_wp2_with (first | (refine HN1.mono ?_; rintro e w' ⟨rfl, rfl⟩) | (refine HN2.mono ?_; rintro e w' ⟨rfl, rfl⟩))
    first | exact ⟨rfl, rfl⟩ | (go_ret; exact ⟨rfl, rfl⟩)
  · rw [e2 h]
    subst h
    clear e1 e2 e3
    go_enter Try.func39, Try.ntmps39
    go_wp2_with (first | (refine HN1.mono ?_; rintro e w' ⟨rfl, rfl⟩))
    first | exact ⟨rfl, rfl⟩ | (go_ret; exact ⟨rfl, rfl⟩)
  · rw [e3 h]
    have h' : ¬ a < b := by omega
    clear e1 e2 e3
    go_enter Try.func39, Try.ntmps39
    go_wp2_with (first | (refine HN1.mono ?_; rintro e w' ⟨rfl, rfl⟩) | (refine HN2.mono ?_; rintro e w' ⟨rfl, rfl⟩))
    first | exact ⟨rfl, rfl⟩ | (go_ret; exact ⟨rfl, rfl⟩)
theorem cmpZ_pos (a b : Int) : decide (0 < cmpZ a b) = decide (b < a) := by
  unfold cmpZ
  split
  · rw [decide_eq_false (by omega), decide_eq_false (by omega)]
  · split
    · rw [decide_eq_true (by omega), decide_eq_true (by omega)]
    · rw [decide_eq_false (by omega), decide_eq_false (by omega)]
theorem cmpZ_zero (a b : Int) : (cmpZ a b == 0) = decide (b = a) := by
  unfold cmpZ
  split
  · rw [decide_eq_false (by omega)]; rfl
  · split
    · rw [decide_eq_false (by omega)]; rfl
    · rw [decide_eq_true (by omega)]; rfl

set_option maxHeartbeats 1000000 in
/-- The closure: the cell looked for against the one at i. -/
theorem look_any {V : World} {c x : Int} {i n b pc ps : Nat} (h1 : V.cell? ⟨pc, 0, none⟩ = some (.int .i64 c)) (h2 : V.cell? ⟨ps, 0, none⟩ = some (.slice (some ⟨b, 0, none⟩) n 16)) (h3 : V.cell? ⟨b, i * 2, none⟩ = some (.int .i64 x)) (hi : i < n) (_hn : n ≤ 16) :
    Calls Try.prog 38 #[.int .i64 (i : Int), .pointer (some ⟨pc, 0, none⟩), .pointer (some ⟨ps, 0, none⟩)] V fun e w' => e = .returned (.int .i64 (cmpZ c x)) ∧ ∃ k, w' = V.drewN k := by
  have HC : Hid (∀ W, Calls Try.prog 39 #[.int .i64 c, .int .i64 x] W fun e w' => e = .returned (.int .i64 (cmpZ c x)) ∧ w' = W) := fun W => ccmp_any W c x
  generalize cmpZ c x = d at *
  have i0 : (0 : Int) ≤ (i : Int) := by omega
  have i1 : (i : Int) < (n : Int) := by omega
  have z0 : V.drew.cell? ⟨pc, 0, none⟩ = some (.int .i64 c) ∧ V.drew.cell? ⟨ps, 0, none⟩ = some (.slice (some ⟨b, 0, none⟩) n 16) ∧ V.drew.cell? ⟨b, i * 2, none⟩ = some (.int .i64 x) := ⟨h1, h2, h3⟩
  clear h1 h2 h3
  go_enter Try.func38, Try.ntmps38
  go_wp2_with fail
  go_region_held3 (fun W' => W'.cell? ⟨pc, 0, none⟩ = some (.int .i64 c) ∧ W'.cell? ⟨ps, 0, none⟩ = some (.slice (some ⟨b, 0, none⟩) n 16) ∧ W'.cell? ⟨b, i * 2, none⟩ = some (.int .i64 x)) (first | exact z0) (first | (go_at_call 39; (with_reducible refine (HC.out _).mono ?_); rintro e w9 ⟨rfl, rfl⟩))
  go_wp2
  go_ret
  exact ⟨rfl, 1, rfl⟩

/-- What the search knows: all ahead of i are less, all from j on are not. -/
def Sk (l : List Cm) (c : Int) (i j : Nat) : Prop := i ≤ j ∧ j ≤ l.length ∧ (∀ k, k < i → (l.getD k c0).c < c) ∧ ∀ k, j ≤ k → k < l.length → c ≤ (l.getD k c0).c
theorem Sk.low {l : List Cm} (hr : Ris l) {c : Int} {i j h : Nat} (hs : Sk l c i j) (h2 : h < j) (hx : (l.getD h c0).c < c) (h1 : i ≤ h) : Sk l c (h + 1) j := by
  obtain ⟨a, b, e, f⟩ := hs
  refine ⟨by omega, b, fun k hk => ?_, f⟩
  rcases Nat.lt_or_ge k h with h3 | h3
  · have := ris_lt hr h3 (by omega)
    omega
  · obtain rfl : k = h := by omega
    exact hx
theorem Sk.high {l : List Cm} (hr : Ris l) {c : Int} {i j h : Nat} (hs : Sk l c i j) (h1 : i ≤ h) (h2 : h < j) (hx : ¬ (l.getD h c0).c < c) : Sk l c i h := by
  obtain ⟨a, b, e, f⟩ := hs
  refine ⟨h1, by omega, e, fun k hk hkl => ?_⟩
  rcases Nat.lt_or_ge h k with h3 | h3
  · have := ris_lt hr h3 hkl
    omega
  · obtain rfl : k = h := by omega
    omega
theorem Sk.done {l : List Cm} {c : Int} {i : Nat} (hs : Sk l c i i) : idx l c = i := idx_eq hs.2.1 hs.2.2.1 hs.2.2.2

set_option maxHeartbeats 2000000 in
theorem sfind_any {w : World} {l : List Cm} {c : Int} {fv : Value} {pc ps : Nat} (hr : Ris l) (hl : l.length ≤ 16) (hfv : fv = .func (.func 38) #[] #[.pointer (some ⟨pc, 0, none⟩), .pointer (some ⟨ps, 0, none⟩)])
    (HC : ∀ V i, Below w.heap.size w V → i < l.length → Calls Try.prog 38 #[.int .i64 (i : Int), .pointer (some ⟨pc, 0, none⟩), .pointer (some ⟨ps, 0, none⟩)] V fun e w' => e = .returned (.int .i64 (cmpZ c (l.getD i c0).c)) ∧ ∃ k, w' = V.drewN k) :
    Calls Try.prog 37 #[.int .i64 (l.length : Int), fv] w fun e w' => e = .returned (.tuple #[.int .i64 (idx l c : Nat), .bool (has l c)]) ∧ Below w.heap.size w w' := by
  have HB0 := Lib.hid (Below.refl w.heap.size w)
  have HS0 : Hid (Sk l c 0 l.length) := ⟨Nat.zero_le _, Nat.le_refl _, fun k hk => by omega, fun k h1 h2 => by omega⟩
  have HCC := Lib.hid HC
  have HR := Lib.hid hr
  clear HC hr
  obtain ⟨n, hn⟩ : ∃ n, n = l.length := ⟨_, rfl⟩
  have HFin : Hid (∀ i, Sk l c i i → (idx l c = i) ∧ (i < n → has l c = decide ((l.getD i c0).c = c)) ∧ (¬ i < n → has l c = false)) := by
    intro i hs
    have e := hs.done
    refine ⟨e, fun hi => ?_, fun hi => ?_⟩
    · unfold has
      rw [e, decide_eq_true (by omega)]
      unfold at_
      rw [e]; rfl
    · unfold has
      rw [e, decide_eq_false (by omega)]; rfl
  rw [← hn] at HS0 HCC hl ⊢
  clear hn
  subst hfv
  obtain ⟨R, hR⟩ : ∃ R : Ending → World → Prop, R = fun e w' => e = .returned (.tuple #[.int .i64 (idx l c : Nat), .bool (has l c)]) ∧ Below w.heap.size w w' := ⟨_, rfl⟩
  have HP : Hid (∀ (i : Nat) (t : Bool) w', idx l c = i → has l c = t → Below w.heap.size w w' → R (.returned (.tuple #[.int .i64 (i : Int), .bool t])) w') := by
    rw [hR]; intro i t w' h1 h2 h3; exact ⟨by rw [h1, h2], h3⟩
  rw [← hR]
  clear hR
  go_enter Try.func37, Try.ntmps37
  go_wp2
  go_loopw [4, 6] (fun u v wr => ∃ i j : Nat, j ≤ n ∧ i ≤ j ∧ u = .int .i64 (i : Int) ∧ v = .int .i64 (j : Int) ∧ Sk l c i j ∧ Below w.heap.size w wr) (fun u v _ => (intOf v).toNat - (intOf u).toNat)
  case atStart => exact ⟨0, n, Nat.le_refl _, Nat.zero_le _, rfl, rfl, HS0.out, HB0.out⟩
  case round =>
    rename World => wr
    obtain ⟨i, j, hj, hij, rfl, rfl, hs, hB⟩ := hrel
    have HS := Lib.hid hs
    have HB := Lib.hid hB
    clear hs hB HS0 HB0
    by_cases hlt : i < j
    · have d0 : decide ((i : Int) < (j : Int)) = true := by simp; omega
      obtain ⟨h, hh⟩ : ∃ h, h = (i + j) / 2 := ⟨_, rfl⟩
      have ew : IntKind.i64.wrap ((i : Int) + (j : Int)) = (i : Int) + (j : Int) := IntWalk.i64_in _ (by omega)
      have hih : i ≤ h := by omega
      have hhj : h < j := by omega
      have ew2 : IntKind.i64.wrap ((h : Int) + 1) = (h : Int) + 1 := IntWalk.i64_in _ (by omega)
      have HCl := Lib.hid (HCC.out wr h HB.out (by omega))
      go_wp2_with fail
      have e5 : ((i : Int) + (j : Int)) / 2 = (h : Int) := by omega
      simp only [e5]
      clear e5 ew hh
      refine HCl.out.mono ?_
      rintro e W2 ⟨rfl, k, rfl⟩
      have HB2 := Lib.hid (bel_drewN HB.out k)
      have ep := cmpZ_pos c (l.getD h c0).c
      by_cases hx : (l.getD h c0).c < c
      · rw [decide_eq_true hx] at ep
        have HS2 : Hid (Sk l c (h + 1) j) := HS.out.low HR.out hhj hx hih
        generalize cmpZ c (l.getD h c0).c = d at *
        clear HS HCl hx HFin HP HCC
        go_wp2
        go_roundw
        case rel => exact ⟨h + 1, j, hj, by omega, by push_cast; rfl, rfl, HS2.out, HB2.out⟩
        case measure => simp [intOf]; omega
      · rw [decide_eq_false hx] at ep
        have HS2 : Hid (Sk l c i h) := HS.out.high HR.out hih hhj hx
        generalize cmpZ c (l.getD h c0).c = d at *
        clear HS HCl hx HFin HP HCC
        go_wp2
        go_roundw
        case rel => exact ⟨i, h, by omega, by omega, rfl, rfl, HS2.out, HB2.out⟩
        case measure => simp [intOf]; omega
    · obtain rfl : i = j := by omega
      have d0 : decide ((i : Int) < (i : Int)) = false := by simp
      obtain ⟨e1, e2, e3⟩ := HFin.out i HS.out
      by_cases hin : i < n
      · have d1 : decide ((i : Int) < (n : Int)) = true := by simp; omega
        have HCl := Lib.hid (HCC.out wr i HB.out hin)
        have HFn := Lib.hid (fun W2 => HP.out i (decide ((l.getD i c0).c = c)) W2 e1 (e2 hin))
        have ez := cmpZ_zero c (l.getD i c0).c
        clear e1 e2 e3 HFin HP HCC HS
        generalize decide ((l.getD i c0).c = c) = t at *
        generalize cmpZ c (l.getD i c0).c = d at *
        go_wp2_with fail
        refine HCl.out.mono ?_
        rintro e W2 ⟨rfl, k, rfl⟩
        have HB2 := Lib.hid (bel_drewN HB.out k)
        clear HCl
        go_wp2
        exact HFn.out _ HB2.out
      · have d1 : decide ((i : Int) < (n : Int)) = false := by simp; omega
        have HFn := Lib.hid (fun W2 => HP.out i false W2 e1 (e3 hin))
        clear e1 e2 e3 HFin HP HCC HS
        go_wp2
        exact HFn.out _ HB.out
end Go.Proofs.Ytijhkjegpcmjoaa
