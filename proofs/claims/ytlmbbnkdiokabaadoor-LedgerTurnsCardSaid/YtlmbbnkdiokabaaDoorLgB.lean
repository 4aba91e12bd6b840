/-
  New; Told, Holder, Waiters; Renewed.
-/
import Derived.Test.YtlmbbnkdiokabaaDoorLgA
import Derived.Test.YtlmbbnkdiokabaaDoorSq5
namespace Go.Proofs.YtlmbbnkdiokabaaDoor
set_option maxRecDepth 100000
set_option linter.unusedSimpArgs false
open Go Go.RowKit Sp Lg

namespace Lg
def newS (h R C : Int) : S := ⟨h, R, C, fun _ => e0, fun _ => [], fun r => decide (r = h)⟩
def newB (h R C : Int) : Bool := decide (1 ≤ R) && decide (R ≤ 64) && decide (0 ≤ h) && decide (h < R) && decide (1 ≤ C) && decide (C ≤ 1024)
theorem newS_ok {h R C : Int} (k : newB h R C = true) : Ok (newS h R C) := by
  unfold newB at k
  simp only [Bool.and_eq_true, decide_eq_true_eq] at k
  exact ⟨by show 0 ≤ h; omega, by show h < R; omega, by show R ≤ 64; omega, by show 1 ≤ C; omega, by show C ≤ 1024; omega, fun _ _ => ⟨rfl, rfl⟩, fun _ => Sp.Ok.nil, fun _ x hx => (by cases hx), fun _ => .inl rfl, fun _ => ⟨by show (0 : Int) ≤ 0; omega, by show (0 : Int) ≤ 4294967295; omega⟩⟩
theorem Ok.setT {s : S} (h : Ok s) (r : Int) (x : Bool) : Ok (s.setT r x) := ⟨h.h0, h.hR, h.R1, h.C0, h.C1, h.out, h.q, h.qr, h.er, h.eg⟩
end Lg
theorem tc_set (T : Int → Bool) {i : Nat} (h : i < 64) (x : Bool) : (tc T).set i (.bool x) = tc (fun r => if r = (i : Int) then x else T r) := by
  apply List.ext_getElem?
  intro j
  by_cases hj : j < 64
  · rw [tc_get _ hj]
    by_cases e : j = i
    · subst e; simp [tc_length, h]
    · rw [List.getElem?_set_ne (fun e2 => e e2.symm), tc_get _ hj]
      have : ¬ (j : Int) = (i : Int) := by omega
      simp [this]
  · rw [List.getElem?_eq_none (by simp [tc_length]; omega), List.getElem?_eq_none (by simp [tc_length]; omega)]
theorem lc_set (s : S) (me mq : Nat) {i : Nat} (h : i < 64) (x : Bool) : (lc s me mq).toArray.setIfInBounds (5 + i) (.bool x) = (lc (s.setT i x) me mq).toArray := by
  apply Array.ext'
  simp only [Array.toList_setIfInBounds]
  show (lc s me mq).set (5 + i) (.bool x) = lc (s.setT i x) me mq
  unfold lc
  rw [List.set_append_right _ _ (by simp)]
  simp only [List.length_cons, List.length_nil]
  rw [show 5 + i - (0 + 1 + 1 + 1 + 1 + 1) = i by omega, tc_set _ h]
  rfl
section
variable {w w' : World} {b me mq N : Nat} {P : Int → Option Nat} {s : S}
theorem LedAt.setT (h : LedAt w b me mq P N s) {i : Nat} (hi : i < 64) (x : Bool) : LedAt (w.setCell ⟨b, 5 + i, none⟩ (.bool x)) b me mq P N (s.setT i x) := by
  have hk : Kept (fun k => k = b) w (w.setCell ⟨b, 5 + i, none⟩ (.bool x)) := (Kept.refl (fun k => k = b) w).setCell (p := ⟨b, 5 + i, none⟩) (.inl rfl) _
  refine ⟨?_, h.ents.kept hk (fun e => h.b_me e.symm), h.ques.kept hk (fun e => h.b_mq e.symm), h.none_, fun c o e => (h.some_ c o e).kept hk (h.p_ne e).1, h.inj, h.ne, h.af.kept hk (fun e => h.ng b (.inl rfl) e.symm), h.ng, h.ok.setT _ _⟩
  rw [blk_set h.blk, lc_set _ _ _ hi]
theorem told_cell (h : LedAt w b me mq P N s) {r : Int} (hr : s.has r = true) : ∃ i : Nat, i < 64 ∧ r = (i : Int) := by
  have := h.ok.R1
  unfold S.has at hr
  simp only [Bool.and_eq_true, decide_eq_true_eq] at hr
  exact ⟨r.toNat, by omega, by omega⟩
/-- Told. -/
theorem tell_any (h : LedAt w b me mq P N s) (r : Int) : Calls Tryd.prog 23 #[.pointer (some ⟨b, 0, none⟩), .int .i64 r] w fun e w' => e = .returned (.bool (s.has r && s.T r)) ∧ w = w' := by
  have HH := Lib.hid (has_any h r)
  cases hr : s.has r with
  | false =>
    rw [hr] at HH
    clear h
    go_enter Tryd.func23, Tryd.ntmps23
    go_wp2_with fail
    refine HH.out.mono ?_
    rintro e W ⟨rfl, rfl⟩
    go_wp2
    go_ret
    exact ⟨rfl, rfl⟩
  | true =>
    rw [hr] at HH
    obtain ⟨i, hi, rfl⟩ := told_cell h hr
    have ct := h.told hi
    clear h hr
    generalize s.T (i : Int) = t at *
    have i0 : (0 : Int) ≤ (i : Int) := by omega
    have i1 : (i : Int) < 64 := by omega
    go_enter Tryd.func23, Tryd.ntmps23
    go_wp2_with fail
    refine HH.out.mono ?_
    rintro e W ⟨rfl, rfl⟩
    go_wp2
    go_ret
    exact ⟨rfl, rfl⟩
/-- Holder. -/
theorem holder_any (h : LedAt w b me mq P N s) {c : Int} (hc : I64 c) : Calls Tryd.prog 20 #[.pointer (some ⟨b, 0, none⟩), .int .i64 c] w fun e w' => e = .returned (.tuple #[.int .i64 (s.E c).r, .int .u32 (s.E c).g]) ∧ Below w.heap.size w w' := by
  obtain ⟨R, hR⟩ : ∃ R : Ending → World → Prop, R = fun e w' => e = .returned (.tuple #[.int .i64 (s.E c).r, .int .u32 (s.E c).g]) ∧ Below w.heap.size w w' := ⟨_, rfl⟩
  have HR : Hid (∀ w', Below w.heap.size w w' → R (.returned (.tuple #[.int .i64 (s.E c).r, .int .u32 (s.E c).g])) w') := by rw [hR]; exact fun w' h => ⟨rfl, h⟩
  rw [← hR]
  clear hR
  have HE := Lib.hid (entry_any h hc)
  simp only [ev] at HE
  clear h hc
  generalize (s.E c).r = r at *
  generalize (s.E c).g = g at *
  go_enter Tryd.func20, Tryd.ntmps20
  go_wp2_with fail
  refine HE.out.mono ?_
  rintro e W ⟨rfl, hb⟩
  have b1 := box2 (V := W) (a := .int .i64 r) (b := .int .u32 g) (t := 81)
  have g0 : (W.alloc (.cells #[.int .i64 r, .int .u32 g] 81)).drew.cell? ⟨W.heap.size, 0, none⟩ = some (.int .i64 r) := by rw [blk_cell (w := (W.alloc (.cells #[.int .i64 r, .int .u32 g] 81)).drew) b1]; rfl
  have g1 : (W.alloc (.cells #[.int .i64 r, .int .u32 g] 81)).drew.cell? ⟨W.heap.size, 1, none⟩ = some (.int .u32 g) := by rw [blk_cell (w := (W.alloc (.cells #[.int .i64 r, .int .u32 g] 81)).drew) b1]; rfl
  have HF := Lib.hid (HR.out (W.alloc (.cells #[.int .i64 r, .int .u32 g] 81)).drew (hb.trans ((alloc_below W _).drew.mono hb.size)))
  clear b1 hb HE
  go_wp2
  go_region
  go_wp2
  exact HF.out
/-- Waiters. -/
theorem waiters_any (h : LedAt w b me mq P N s) {c : Int} (hc : I64 c) : Calls Tryd.prog 26 #[.pointer (some ⟨b, 0, none⟩), .int .i64 c] w (WtP w (s.Q c)) := by
  have HM := Lib.hid (made_any h)
  have c4 := h.five.2.2.2.2
  have hl := h.lookQ hc
  have HA := Lib.hid (all_any (h.qp c))
  clear h
  generalize (P c).map (fun o => (⟨o, 0, none⟩ : Addr)) = p at *
  go_enter Tryd.func26, Tryd.ntmps26
  go_wp2_with fail
  refine HM.out.mono ?_
  rintro e W ⟨rfl, rfl⟩
  go_wp2_with fail
  refine HA.out.mono ?_
  rintro e W ⟨v, rfl, h1, h2⟩
  have H1 := Lib.hid h1
  have H2 := Lib.hid h2
  clear h1 h2
  go_wp2
  go_ret
  exact ⟨v, rfl, H1.out, H2.out⟩
end
end Go.Proofs.YtlmbbnkdiokabaaDoor
