/-
  numbersOf, rising.
-/
import Derived.Test.YtfgajjfcjlejmaaDoorWr1
namespace Go.Proofs.YtfgajjfcjlejmaaDoor
set_option maxRecDepth 100000
set_option linter.unusedSimpArgs false
open Go Go.RowKit Wr

/-- A message as a value; its claims lie in a list. -/
@[reducible] def msgA (m : Msg) (A : Option Addr) (n cap : Nat) : Value := .agg #[.int .i64 m.kind, .int .i64 m.cell, .int .u32 (m.gen : Nat), .int .u64 (m.stamp : Nat), .int .i64 m.prio, .int .i64 m.hops, .int .i64 m.origin, .int .i64 m.other, .slice A n cap]
@[reducible] def numA (m : Msg) (n : Nat) : Value := .agg #[.int .i64 0, .int .i64 m.cell, .int .i64 (m.gen : Nat), .int .i64 (w64 (m.stamp : Nat)), .int .i64 m.prio, .int .i64 m.hops, .int .i64 m.origin, .int .i64 m.other, .int .i64 (n : Nat)]

theorem wrap_w64 (n : Int) : IntKind.i64.wrap n = w64 n := by
  simp [IntKind.wrap, IntKind.bits, IntKind.signed, w64]

set_option maxHeartbeats 400000 in
theorem numbers_any (w : World) (m : Msg) (A : Option Addr) (n cap : Nat) (hg : m.gen < 4294967296) :
    Calls Tryd.prog 60 #[msgA m A n cap] w fun e w' => e = .returned (numA m n) ∧ Below w.heap.size w w' := by
  obtain ⟨k, c, g, s, p, h, o, t, cl⟩ := m
  simp only at hg
  simp only [msgA, numA]
  have e1 : IntKind.i64.wrap (g : Int) = (g : Int) := by rw [wrap_w64]; unfold w64; omega
  have e2 : IntKind.i64.wrap (s : Int) = w64 (s : Int) := wrap_w64 _
  generalize w64 (s : Int) = S at *
  clear hg
  go_enter Tryd.func60, Tryd.ntmps60
  go_wp2
  refine bodyPost_ret (v := .agg #[.int .i64 0, .int .i64 c, .int .i64 (g : Int), .int .i64 S, .int .i64 p, .int .i64 h, .int .i64 o, .int .i64 t, .int .i64 (n : Int)]) (by simp [results, Tryd.results60, go_sem]) rfl ⟨rfl, ?_⟩
  exact ((Below.refl _ w).alloc (Nat.le_refl _) _).alloc (by simp) _

/-- Claims in memory. -/
def ClaimsAt (w : World) (A : Option Addr) (l : List (Int × Nat)) : Prop :=
  ∀ k, k < l.length → ∃ a, A = some a ∧ w.cell? (a.add (k * 2)) = some (.int .i64 (l.getD k (0, 0)).1) ∧ w.cell? ⟨(a.add (k * 2)).block, (a.add (k * 2)).off + 1, none⟩ = some (.int .u32 ((l.getD k (0, 0)).2 : Nat))
theorem ClaimsAt.kept {w w' : World} {X : Nat → Prop} {A : Option Addr} {l : List (Int × Nat)} (h : ClaimsAt w A l) (hk : Kept X w w') (hX : ∀ a, A = some a → ¬ X a.block) : ClaimsAt w' A l := by
  intro k hlt
  obtain ⟨a, h0, h1, h2⟩ := h k hlt
  have hb : (a.add (k * 2)).block = a.block := by unfold Addr.add; split <;> rfl
  exact ⟨a, h0, hk.cell h1 (by rw [hb]; exact hX a h0), hk.cell h2 (by show ¬ X (a.add (k * 2)).block; rw [hb]; exact hX a h0)⟩
theorem ClaimsAt.below {w w' : World} {A : Option Addr} {l : List (Int × Nat)} (h : ClaimsAt w A l) (hb : Below w.heap.size w w') : ClaimsAt w' A l := h.kept (Kept.of_below (X := fun _ => False) hb (Nat.le_refl _)) (fun _ _ => id)
theorem rise_drop {L : Int} {l : List (Int × Nat)} {k : Nat} (hk : k < l.length) : rise L (l.drop k) = (decide (L ≤ (l.getD k (0, 0)).1 ∧ (l.getD k (0, 0)).1 < 1024) && rise ((l.getD k (0, 0)).1 + 1) (l.drop (k + 1))) := by
  rw [List.drop_eq_getElem_cons hk]
  simp [rise, List.getD, hk]
theorem rise_end {L : Int} {l : List (Int × Nat)} : rise L (l.drop l.length) = true := by simp [rise]

set_option maxHeartbeats 800000 in
theorem rising_any {w : World} {A : Option Addr} {l : List (Int × Nat)} (cap : Nat) (h : ClaimsAt w A l) (hl : l.length ≤ 100000) :
    Calls Tryd.prog 63 #[.slice A l.length cap] w fun e w' => e = .returned (.bool (rise 0 l)) ∧ Below w.heap.size w w' := by
  obtain ⟨P, hP⟩ : ∃ P : Ending → World → Prop, P = fun e w' => e = .returned (.bool (rise 0 l)) ∧ Below w.heap.size w w' := ⟨_, rfl⟩
  have HQ : Hid (∀ w', Below w.heap.size w w' → P (.returned (.bool (rise 0 l))) w') := by rw [hP]; exact fun w' h => ⟨rfl, h⟩
  rw [← hP]
  clear hP
  have HC := Lib.hid h
  clear h
  go_enter Tryd.func63, Tryd.ntmps63
  go_wp2
  go_loopw [3, 8] (fun L i wr => ∃ (k : Nat) (least : Int), k ≤ l.length ∧ i = .int .i64 (k : Int) ∧ L = .int .i64 least ∧ rise 0 l = rise least (l.drop k) ∧ 0 ≤ least ∧ Below w.heap.size w wr) (fun _ i _ => l.length - (intOf i).toNat)
  case atStart => exact ⟨0, 0, Nat.zero_le _, rfl, rfl, rfl, Int.le_refl _, Below.refl _ _⟩
  case round =>
    obtain ⟨k, least, hk, rfl, rfl, hr, hl0, hb⟩ := hrel
    have HB := Lib.hid hb
    have HR := Lib.hid hr
    clear hb hr
    by_cases hlt : k < l.length
    · obtain ⟨a, ha, h1, h2⟩ := (HC.out.below HB.out) k hlt
      have hd := rise_drop (L := least) hlt
      have HD := Lib.hid hd
      clear hd
      subst ha
      generalize l.getD k (0, 0) = c at *
      generalize c.1 = c1 at *
      generalize c.2 = c2 at *
      have HN : Hid (∀ o, Below w.heap.size w (wr.alloc o)) := fun o => HB.out.alloc HB.out.size o
      have HK : Hid (k < l.length) := hlt
      by_cases hc1 : c1 < least
      · have HF : Hid (rise 0 l = false) := by rw [Hid, HR.out, HD.out, decide_eq_false (by omega)]; rfl
        rw [HF.out] at HQ
        go_wp2
        skip
        exact HQ.out _ (HN.out _)
      · by_cases hc2 : c1 < 1024
        · have HF : Hid (rise 0 l = rise (c1 + 1) (l.drop (k + 1))) := by rw [Hid, HR.out, HD.out, decide_eq_true (by omega)]; rfl
          go_wp2
          go_roundw
          case rel => exact ⟨k + 1, c1 + 1, by have := HK.out; omega, by go_num, by go_num, HF.out, by omega, HN.out _⟩
          case measure => have := HK.out; simp [intOf]; omega
        · have HF : Hid (rise 0 l = false) := by rw [Hid, HR.out, HD.out, decide_eq_false (by omega)]; rfl
          rw [HF.out] at HQ
          go_wp2
          exact HQ.out _ (HN.out _)
    · obtain rfl : k = l.length := by omega
      have HF : Hid (rise 0 l = true) := by rw [Hid, HR.out, rise_end]
      rw [HF.out] at HQ
      go_wp2
      exact HQ.out _ HB.out
end Go.Proofs.YtfgajjfcjlejmaaDoor
