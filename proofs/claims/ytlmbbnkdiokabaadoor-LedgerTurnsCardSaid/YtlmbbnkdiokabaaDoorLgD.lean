/-
  Request: what it answers.
-/
import Derived.Test.YtlmbbnkdiokabaaDoorLgC
namespace Go.Proofs.YtlmbbnkdiokabaaDoor
set_option maxRecDepth 100000
set_option linter.unusedSimpArgs false
open Go Go.RowKit Sp Lg

namespace Lg
def reqOk (s : S) (r c p : Int) : Bool := s.has r && s.is c && decide (0 ≤ p) && decide (p ≤ 15)
def reqS (s : S) (r c st p : Int) : S := if reqOk s r c p && s.T r then (if (s.E c).r = r then s else if (s.E c).r = -1 then grS s c ⟨r, st, p⟩ else awS s c ⟨r, st, p⟩) else s
def reqO (s : S) (r c st p : Int) : Dn := if reqOk s r c p && s.T r then (if (s.E c).r = r then Dn.none.post ⟨(s.E c).r, ⟨2, c, (s.E c).g, st, 0, 0⟩⟩ else if (s.E c).r = -1 then grO s c ⟨r, st, p⟩ Dn.none else awO s c ⟨r, st, p⟩ Dn.none) else Dn.none
def reqE (s : S) (r c p : Int) : Int := if reqOk s r c p then (if s.T r then 0 else 140) else 2
end Lg
section
variable {w : World} {b me mq N : Nat} {P : Int → Option Nat} {s : S}
set_option maxHeartbeats 1000000 in
theorem request_bad (h : LedAt w b me mq P N s) (r c st p : Int) (hc : I64 c) (hs0 : 0 ≤ st) (hs1 : st ≤ 18446744073709551615) (hfr : (s.E c).r = -1 → s.Q c = []) (hN : N < 99999980) (HNO : ¬ (s.has r = true ∧ s.is c = true ∧ 0 ≤ p ∧ p ≤ 15 ∧ s.T r = true)) :
    Calls Tryd.prog 17 #[.pointer (some ⟨b, 0, none⟩), .int .i64 r, .int .i64 c, .int .u64 st, .int .i64 p] w fun e w' => ReqP w w' b me mq P (N + 2) (reqS s r c st p) (reqO s r c st p) (reqE s r c p) e := by
  have hu9 := And.intro hs0 (And.intro hs1 (And.intro hfr (And.intro hN hc)))
  clear hu9
  obtain ⟨R, hR⟩ : ∃ R : Ending → World → Prop, R = fun e w' => ReqP w w' b me mq P (N + 2) (reqS s r c st p) (reqO s r c st p) (reqE s r c p) e := ⟨_, rfl⟩
  rw [← hR]
  have hb1 := alloc_below w zOut
  have k1 : (w.alloc zOut).heap[w.heap.size]? = some (.cells #[nilV, nilV, nilV] 48 (0, 0)) := World.alloc_heap_new w _
  have h1 := h.below hb1
  have HM := Lib.hid (made_any h1)
  have HH := Lib.hid (has_any h1 r)
  have HI := Lib.hid (is_any h1 c)
  obtain ⟨q0, q1, q2, q3⟩ := zcells _ _ k1
  cases hr : s.has r with
  | false =>
    have HF : Hid (R (.returned (.tuple #[.agg #[nilV, nilV, nilV], .int .i64 2])) (w.alloc zOut)) := by
      rw [hR]
      have e1 : reqS s r c st p = s ∧ reqO s r c st p = Dn.none ∧ reqE s r c p = 2 := by unfold reqS reqO reqE reqOk; rw [hr]; exact ⟨rfl, rfl, rfl⟩
      dsimp only
      rw [e1.1, e1.2.1, e1.2.2]
      obtain ⟨v, a1, a2, P', N', a3, a4, a5⟩ := req_err h hb1 2
      exact ⟨v, a1, a2, P', N', a3, by omega, a5⟩
    rw [hr] at HH
    clear h h1 hb1 hR k1 hc hfr hs0 hs1
    go_enter Tryd.func17, Tryd.ntmps17
    go_wp2_with fail
    refine HM.out.mono ?_
    rintro e W ⟨rfl, rfl⟩
    go_wp2_with fail
    refine HH.out.mono ?_
    rintro e W ⟨rfl, rfl⟩
    go_wp2
    refine bodyPost_ret (v := .tuple #[.agg #[nilV, nilV, nilV], .int .i64 2]) (by simp [results, Tryd.results17, go_sem, q0, q1, q2]) rfl HF.out
  | true =>
  have hb2 : Below w.heap.size w (w.alloc zOut).drew := hb1.drew
  have k2 : (w.alloc zOut).drew.heap[w.heap.size]? = some (.cells #[nilV, nilV, nilV] 48 (0, 0)) := k1
  obtain ⟨q0', q1', q2', q3'⟩ := zcells _ _ k2
  rw [hr] at HH
  cases hi : s.is c with
  | false =>
    have HF : Hid (R (.returned (.tuple #[.agg #[nilV, nilV, nilV], .int .i64 2])) (w.alloc zOut).drew) := by
      rw [hR]
      have e1 : reqS s r c st p = s ∧ reqO s r c st p = Dn.none ∧ reqE s r c p = 2 := by unfold reqS reqO reqE reqOk; rw [hr, hi]; exact ⟨rfl, rfl, rfl⟩
      dsimp only
      rw [e1.1, e1.2.1, e1.2.2]
      obtain ⟨v, a1, a2, P', N', a3, a4, a5⟩ := req_err h hb2 2
      exact ⟨v, a1, a2, P', N', a3, by omega, a5⟩
    rw [hi] at HI
    clear h h1 hb1 hR k1 hc hfr hs0 hs1
    clear hb2 k2
    go_enter Tryd.func17, Tryd.ntmps17
    go_wp2_with fail
    refine HM.out.mono ?_
    rintro e W ⟨rfl, rfl⟩
    go_wp2_with fail
    refine HH.out.mono ?_
    rintro e W ⟨rfl, rfl⟩
    go_wp2_with fail
    refine HI.out.mono ?_
    rintro e W ⟨rfl, rfl⟩
    go_wp2
    refine bodyPost_ret (v := .tuple #[.agg #[nilV, nilV, nilV], .int .i64 2]) (by simp [results, Tryd.results17, go_sem, q0', q1', q2']) rfl HF.out
  | true =>
  rw [hi] at HI
  by_cases hp0 : p < 0
  · have d0 : decide (p < 0) = true := by simpa using hp0
    have d0' : decide (0 ≤ p) = false := by simp; omega
    have HF : Hid (R (.returned (.tuple #[.agg #[nilV, nilV, nilV], .int .i64 2])) (w.alloc zOut).drew) := by
      rw [hR]
      have e1 : reqS s r c st p = s ∧ reqO s r c st p = Dn.none ∧ reqE s r c p = 2 := by unfold reqS reqO reqE reqOk; rw [hr, hi, d0']; exact ⟨rfl, rfl, rfl⟩
      dsimp only
      rw [e1.1, e1.2.1, e1.2.2]
      obtain ⟨v, a1, a2, P', N', a3, a4, a5⟩ := req_err h hb2 2
      exact ⟨v, a1, a2, P', N', a3, by omega, a5⟩
    clear h h1 hb1 hR k1 hc hfr hs0 hs1
    clear hb2 k2 hp0 hi hr
    go_enter Tryd.func17, Tryd.ntmps17
    go_wp2_with fail
    refine HM.out.mono ?_
    rintro e W ⟨rfl, rfl⟩
    go_wp2_with fail
    refine HH.out.mono ?_
    rintro e W ⟨rfl, rfl⟩
    go_wp2_with fail
    refine HI.out.mono ?_
    rintro e W ⟨rfl, rfl⟩
    go_wp2
    refine bodyPost_ret (v := .tuple #[.agg #[nilV, nilV, nilV], .int .i64 2]) (by simp [results, Tryd.results17, go_sem, q0', q1', q2']) rfl HF.out
  have d0 : decide (p < 0) = false := by simpa using hp0
  have d0' : decide (0 ≤ p) = true := by simp; omega
  by_cases hp1 : 15 < p
  · have d1 : decide (15 < p) = true := by simpa using hp1
    have d1' : decide (p ≤ 15) = false := by simp; omega
    have HF : Hid (R (.returned (.tuple #[.agg #[nilV, nilV, nilV], .int .i64 2])) (w.alloc zOut).drew) := by
      rw [hR]
      have e1 : reqS s r c st p = s ∧ reqO s r c st p = Dn.none ∧ reqE s r c p = 2 := by unfold reqS reqO reqE reqOk; rw [hr, hi, d0', d1']; exact ⟨rfl, rfl, rfl⟩
      dsimp only
      rw [e1.1, e1.2.1, e1.2.2]
      obtain ⟨v, a1, a2, P', N', a3, a4, a5⟩ := req_err h hb2 2
      exact ⟨v, a1, a2, P', N', a3, by omega, a5⟩
    clear h h1 hb1 hR k1 hc hfr hs0 hs1
    clear hb2 k2 hp0 hi hr hp1
    go_enter Tryd.func17, Tryd.ntmps17
    go_wp2_with fail
    refine HM.out.mono ?_
    rintro e W ⟨rfl, rfl⟩
    go_wp2_with fail
    refine HH.out.mono ?_
    rintro e W ⟨rfl, rfl⟩
    go_wp2_with fail
    refine HI.out.mono ?_
    rintro e W ⟨rfl, rfl⟩
    go_wp2
    refine bodyPost_ret (v := .tuple #[.agg #[nilV, nilV, nilV], .int .i64 2]) (by simp [results, Tryd.results17, go_sem, q0', q1', q2']) rfl HF.out
  have d1 : decide (15 < p) = false := by simpa using hp1
  have d1' : decide (p ≤ 15) = true := by simp; omega
  have ok0 : reqOk s r c p = true := by unfold reqOk; rw [hr, hi, d0', d1']; rfl
  obtain ⟨i, hi64, hri⟩ := told_cell h hr
  have ct : (w.alloc zOut).drew.cell? ⟨b, 5 + r.toNat, none⟩ = some (.bool (s.T r)) := by rw [show r.toNat = i by omega, hri]; exact h1.drew.told hi64
  have i0 : (0 : Int) ≤ r := by omega
  have i1 : r < 64 := by omega
  clear hri hi64
  cases ht : s.T r with
  | false =>
    rw [ht] at ct
    have HF : Hid (R (.returned (.tuple #[.agg #[nilV, nilV, nilV], .int .i64 140])) (w.alloc zOut).drew) := by
      rw [hR]
      have e1 : reqS s r c st p = s ∧ reqO s r c st p = Dn.none ∧ reqE s r c p = 140 := by unfold reqS reqO reqE; rw [ok0, ht]; exact ⟨rfl, rfl, rfl⟩
      dsimp only
      rw [e1.1, e1.2.1, e1.2.2]
      obtain ⟨v, a1, a2, P', N', a3, a4, a5⟩ := req_err h hb2 140
      exact ⟨v, a1, a2, P', N', a3, by omega, a5⟩
    clear h h1 hb1 hR k1 hc hfr hs0 hs1
    clear hb2 k2 hp0 hi hr hp1 ok0 ht
    go_enter Tryd.func17, Tryd.ntmps17
    go_wp2_with fail
    refine HM.out.mono ?_
    rintro e W ⟨rfl, rfl⟩
    go_wp2_with fail
    refine HH.out.mono ?_
    rintro e W ⟨rfl, rfl⟩
    go_wp2_with fail
    refine HI.out.mono ?_
    rintro e W ⟨rfl, rfl⟩
    go_wp2
    refine bodyPost_ret (v := .tuple #[.agg #[nilV, nilV, nilV], .int .i64 140]) (by simp [results, Tryd.results17, go_sem, q0', q1', q2']) rfl HF.out
  | true =>
    exact absurd ⟨hr, hi, by omega, by omega, ht⟩ HNO

set_option maxHeartbeats 1000000 in
theorem request_own (h : LedAt w b me mq P N s) (r c st p : Int) (hc : I64 c) (hs0 : 0 ≤ st) (hs1 : st ≤ 18446744073709551615) (hfr : (s.E c).r = -1 → s.Q c = []) (hN : N < 99999980) (HYP : s.has r = true ∧ s.is c = true ∧ 0 ≤ p ∧ p ≤ 15 ∧ s.T r = true) (hA : (s.E c).r = r) :
    Calls Tryd.prog 17 #[.pointer (some ⟨b, 0, none⟩), .int .i64 r, .int .i64 c, .int .u64 st, .int .i64 p] w fun e w' => ReqP w w' b me mq P (N + 2) (reqS s r c st p) (reqO s r c st p) (reqE s r c p) e := by
    have hu9 := And.intro hs0 (And.intro hs1 (And.intro hfr (And.intro hN hc)))
    clear hu9
    have hr : s.has r = true := HYP.1
    have hi : s.is c = true := HYP.2.1
    have hp0 : ¬ p < 0 := by have := HYP.2.2.1; omega
    have hp1 : ¬ 15 < p := by have := HYP.2.2.2.1; omega
    have ht : s.T r = true := HYP.2.2.2.2
    have d0 : decide (p < 0) = false := by simpa using hp0
    have d0' : decide (0 ≤ p) = true := by simp; omega
    have d1 : decide (15 < p) = false := by simpa using hp1
    have d1' : decide (p ≤ 15) = true := by simp; omega
    have ok0 : reqOk s r c p = true := by unfold reqOk; rw [hr, hi, d0', d1']; rfl
    obtain ⟨R, hR⟩ : ∃ R : Ending → World → Prop, R = fun e w' => ReqP w w' b me mq P (N + 2) (reqS s r c st p) (reqO s r c st p) (reqE s r c p) e := ⟨_, rfl⟩
    rw [← hR]
    have hb1 := alloc_below w zOut
    have k1 : (w.alloc zOut).heap[w.heap.size]? = some (.cells #[nilV, nilV, nilV] 48 (0, 0)) := World.alloc_heap_new w _
    have h1 := h.below hb1
    have HM := Lib.hid (made_any h1)
    have HH := Lib.hid (has_any h1 r)
    have HI := Lib.hid (is_any h1 c)
    rw [hr] at HH
    rw [hi] at HI
    obtain ⟨q0, q1, q2, q3⟩ := zcells _ _ k1
    have hb2 : Below w.heap.size w (w.alloc zOut).drew := hb1.drew
    have k2 : (w.alloc zOut).drew.heap[w.heap.size]? = some (.cells #[nilV, nilV, nilV] 48 (0, 0)) := k1
    obtain ⟨q0', q1', q2', q3'⟩ := zcells _ _ k2
    obtain ⟨i, hi64, hri⟩ := told_cell h hr
    have ct : (w.alloc zOut).drew.cell? ⟨b, 5 + r.toNat, none⟩ = some (.bool true) := by rw [show r.toNat = i by omega, ← ht, hri]; exact h1.drew.told hi64
    have i0 : (0 : Int) ≤ r := by omega
    have i1 : r < 64 := by omega
    clear hri hi64
    have hb3 : Below w.heap.size w ((((w.alloc zOut).drew).alloc zOut).alloc (.cells #[.int .i64 r, .int .u64 st, .int .i64 p] 71)) := (hb2.trans ((alloc_below _ _).mono hb2.size)).trans ((alloc_below _ _).mono (by simp; omega))
    have h3 := h.below hb3
    have HE := Lib.hid (entry_any h3 hc)
    simp only [ev] at HE
    have hg0 := h.af.lt
    have HD : Hid (∀ W3, Below ((((w.alloc zOut).drew).alloc zOut).alloc (.cells #[.int .i64 r, .int .u64 st, .int .i64 p] 71)).heap.size ((((w.alloc zOut).drew).alloc zOut).alloc (.cells #[.int .i64 r, .int .u64 st, .int .i64 p] 71)) W3 → (W3.alloc (.cells #[.int .i64 (s.E c).r, .int .u32 (s.E c).g] 81)).heap[w.heap.size]? = some (.cells #[nilV, nilV, nilV] 48 (0, 0)) ∧ LO (W3.alloc (.cells #[.int .i64 (s.E c).r, .int .u32 (s.E c).g] 81)) b me mq P N s w.heap.size (w.heap.size + 1) v0 Dn.none ∧ Below w.heap.size w (W3.alloc (.cells #[.int .i64 (s.E c).r, .int .u32 (s.E c).g] 81)) ∧
        (W3.alloc (.cells #[.int .i64 (s.E c).r, .int .u32 (s.E c).g] 81)).heap[w.heap.size + 2]? = some (.cells #[.int .i64 r, .int .u64 st, .int .i64 p] 71 (0, 0)) ∧ (W3.alloc (.cells #[.int .i64 (s.E c).r, .int .u32 (s.E c).g] 81)).heap[W3.heap.size]? = some (.cells #[.int .i64 (s.E c).r, .int .u32 (s.E c).g] 81 (0, 0))) := by
      intro W3 h9'
      have h9 := h9'.trans ((alloc_below W3 (.cells #[.int .i64 (s.E c).r, .int .u32 (s.E c).g] 81)).mono h9'.size)
      have j1 : ((((w.alloc zOut).drew).alloc zOut).alloc (.cells #[.int .i64 r, .int .u64 st, .int .i64 p] 71)).heap[w.heap.size]? = some (.cells #[nilV, nilV, nilV] 48 (0, 0)) := heap_up (heap_up k2)
      have j2 : ((((w.alloc zOut).drew).alloc zOut).alloc (.cells #[.int .i64 r, .int .u64 st, .int .i64 p] 71)).heap[w.heap.size + 1]? = some (.cells #[nilV, nilV, nilV] 48 (0, 0)) := by
        refine heap_up ?_
        have := World.alloc_heap_new (w.alloc zOut).drew zOut
        rw [show (w.alloc zOut).drew.heap.size = w.heap.size + 1 by simp] at this
        exact this
      have j3 : ((((w.alloc zOut).drew).alloc zOut).alloc (.cells #[.int .i64 r, .int .u64 st, .int .i64 p] 71)).heap[w.heap.size + 2]? = some (.cells #[.int .i64 r, .int .u64 st, .int .i64 p] 71 (0, 0)) := by
        have := World.alloc_heap_new (((w.alloc zOut).drew).alloc zOut) (.cells #[.int .i64 r, .int .u64 st, .int .i64 p] 71)
        rw [show (((w.alloc zOut).drew).alloc zOut).heap.size = w.heap.size + 2 by simp] at this
        exact this
      have hb9 := hb3.trans (h9.mono hb3.size)
      exact ⟨(h9.block _ (blk_lt j1)).trans j1, ⟨h3.below h9, OutP.nil hg0 (by omega) ((h9.block _ (blk_lt j2)).trans j2)⟩, hb9, (h9.block _ (blk_lt j3)).trans j3, World.alloc_heap_new W3 _⟩
    have HC : Hid (∀ W3, Below ((((w.alloc zOut).drew).alloc zOut).alloc (.cells #[.int .i64 r, .int .u64 st, .int .i64 p] 71)).heap.size ((((w.alloc zOut).drew).alloc zOut).alloc (.cells #[.int .i64 r, .int .u64 st, .int .i64 p] 71)) W3 → (W3.alloc (.cells #[.int .i64 (s.E c).r, .int .u32 (s.E c).g] 81)).cell? ⟨w.heap.size + 2, 0, none⟩ = some (.int .i64 r) ∧ (W3.alloc (.cells #[.int .i64 (s.E c).r, .int .u32 (s.E c).g] 81)).cell? ⟨w.heap.size + 2, 1, none⟩ = some (.int .u64 st) ∧ (W3.alloc (.cells #[.int .i64 (s.E c).r, .int .u32 (s.E c).g] 81)).cell? ⟨w.heap.size + 2, 2, none⟩ = some (.int .i64 p) ∧ (W3.alloc (.cells #[.int .i64 (s.E c).r, .int .u32 (s.E c).g] 81)).cell? ⟨W3.heap.size, 0, none⟩ = some (.int .i64 (s.E c).r) ∧ (W3.alloc (.cells #[.int .i64 (s.E c).r, .int .u32 (s.E c).g] 81)).cell? ⟨W3.heap.size, 1, none⟩ = some (.int .u32 (s.E c).g)) := by
      intro W3 h9
      obtain ⟨_, _, _, a4, a5⟩ := HD.out W3 h9
      exact ⟨by rw [blk_cell a4]; rfl, by rw [blk_cell a4]; rfl, by rw [blk_cell a4]; rfl, by rw [blk_cell a5]; rfl, by rw [blk_cell a5]; rfl⟩
    have hle0 : Dn.none.le 0 := ⟨Nat.le_refl _, Nat.le_refl _, Nat.le_refl _⟩
    · have e1 : reqS s r c st p = s ∧ reqO s r c st p = Dn.none.post ⟨(s.E c).r, ⟨2, c, (s.E c).g, st, 0, 0⟩⟩ ∧ reqE s r c p = 0 := by unfold reqS reqO reqE; rw [ok0, ht]; simp only [Bool.and_self, if_true, hA]; exact ⟨trivial, trivial, trivial⟩
      have hbq : ((s.E c).r == r) = true := by simp [hA]
      have HX : Hid (∀ W3, Below ((((w.alloc zOut).drew).alloc zOut).alloc (.cells #[.int .i64 r, .int .u64 st, .int .i64 p] 71)).heap.size ((((w.alloc zOut).drew).alloc zOut).alloc (.cells #[.int .i64 r, .int .u64 st, .int .i64 p] 71)) W3 → Calls Tryd.prog 42 #[.pointer (some ⟨w.heap.size + 1, 0, none⟩), .int .i64 c, .agg #[.int .i64 (s.E c).r, .int .u32 (s.E c).g], .int .u64 st] (W3.alloc (.cells #[.int .i64 (s.E c).r, .int .u32 (s.E c).g] 81)) fun e W5 => e = .returned (.tuple #[]) ∧ ∃ v : OV, (∃ A1 n1 c1 A2 n2 c2 A3 n3 c3, v = ⟨.slice A1 n1 c1, .slice A2 n2 c2, .slice A3 n3 c3⟩) ∧ (W5.cell? ⟨w.heap.size + 1, 0, none⟩ = some v.w ∧ W5.cell? ⟨w.heap.size + 1, 1, none⟩ = some v.p ∧ W5.cell? ⟨w.heap.size + 1, 2, none⟩ = some v.b) ∧ W5.heap[w.heap.size]? = some (.cells #[nilV, nilV, nilV] 48 (0, 0)) ∧ R (.returned (.tuple #[.agg #[v.w, v.p, v.b], .int .i64 0])) (((W5.setCell ⟨w.heap.size, 0, none⟩ v.w).setCell ⟨w.heap.size, 1, none⟩ v.p).setCell ⟨w.heap.size, 2, none⟩ v.b)) := by
        intro W3 h9
        obtain ⟨a1, a2, a3, _⟩ := HD.out W3 h9
        refine (grant_p a2.out hle0 (by omega) c (s.E c).r (s.E c).g st).mono ?_
        rintro e W5 ⟨rfl, hs⟩
        obtain ⟨v, b0, b1, b2, b3⟩ := fin_out (N2 := N + 2) h a3 a1 (Nat.le_refl _) (by omega) (by omega) (a2.out_step hs (by omega))
        refine ⟨rfl, v, b0, b1, b2, ?_⟩
        rw [hR, e1.1, e1.2.1, e1.2.2]
        exact b3
      clear hA
      clear h h1 h3 hb1 hb2 hb3 hR k1 k2 hc hfr hs0 hs1 HD e1 hi hr hg0 hp0 hp1 ht ok0 HYP d0' d1'
      generalize (s.E c).r = r0 at *
      generalize (s.E c).g = g0 at *
      go_enter Tryd.func17, Tryd.ntmps17
      go_wp2_with fail
      refine HM.out.mono ?_
      rintro e W ⟨rfl, rfl⟩
      go_wp2_with fail
      refine HH.out.mono ?_
      rintro e W ⟨rfl, rfl⟩
      go_wp2_with fail
      refine HI.out.mono ?_
      rintro e W ⟨rfl, rfl⟩
      go_wp2_with fail
      refine HE.out.mono ?_
      rintro e W3 ⟨rfl, h9⟩
      have HY := Lib.hid (HX.out W3 h9)
      obtain ⟨x5, x6, x7, x8, x9⟩ := HC.out W3 h9
      clear h9 HX HE HI HH HM HC q0 q1 q2 q3 q0' q1' q2' q3'
      go_wp2_with fail
      refine HY.out.mono ?_
      rintro e W5 ⟨rfl, v, ⟨A1, n1, c1, A2, n2, c2, A3, n3, c3, rfl⟩, ⟨x0, x1, x2⟩, hk5, hP⟩
      dsimp only at x0 x1 x2 hP
      clear HY
      have f5 := blk_free hk5
      obtain ⟨y0, y1, y2, _⟩ := zcells _ _ hk5
      have hx6 := blk_rec (b1 := .slice A1 n1 c1) (b2 := .slice A2 n2 c2) (b3 := .slice A3 n3 c3) hk5
      have g0 := blk_cell hx6 0
      have g1 := blk_cell hx6 1
      have g2 := blk_cell hx6 2
      simp only [List.getElem?_toArray, List.getElem?_cons_zero, List.getElem?_cons_succ] at g0 g1 g2
      have HF := Lib.hid hP
      clear hP hx6 hk5
      go_wp2
      refine bodyPost_ret (v := .tuple #[.agg #[.slice A1 n1 c1, .slice A2 n2 c2, .slice A3 n3 c3], .int .i64 0]) (by simp [results, Tryd.results17, go_sem, g0, g1, g2]) rfl HF.out

set_option maxHeartbeats 1000000 in
theorem request_free (h : LedAt w b me mq P N s) (r c st p : Int) (hc : I64 c) (hs0 : 0 ≤ st) (hs1 : st ≤ 18446744073709551615) (hfr : (s.E c).r = -1 → s.Q c = []) (hN : N < 99999980) (HYP : s.has r = true ∧ s.is c = true ∧ 0 ≤ p ∧ p ≤ 15 ∧ s.T r = true) (hA : ¬ (s.E c).r = r) (hB : (s.E c).r = -1) :
    Calls Tryd.prog 17 #[.pointer (some ⟨b, 0, none⟩), .int .i64 r, .int .i64 c, .int .u64 st, .int .i64 p] w fun e w' => ReqP w w' b me mq P (N + 2) (reqS s r c st p) (reqO s r c st p) (reqE s r c p) e := by
    have hu9 := And.intro hs0 (And.intro hs1 (And.intro hfr (And.intro hN hc)))
    clear hu9
    have hr : s.has r = true := HYP.1
    have hi : s.is c = true := HYP.2.1
    have hp0 : ¬ p < 0 := by have := HYP.2.2.1; omega
    have hp1 : ¬ 15 < p := by have := HYP.2.2.2.1; omega
    have ht : s.T r = true := HYP.2.2.2.2
    have d0 : decide (p < 0) = false := by simpa using hp0
    have d0' : decide (0 ≤ p) = true := by simp; omega
    have d1 : decide (15 < p) = false := by simpa using hp1
    have d1' : decide (p ≤ 15) = true := by simp; omega
    have ok0 : reqOk s r c p = true := by unfold reqOk; rw [hr, hi, d0', d1']; rfl
    obtain ⟨R, hR⟩ : ∃ R : Ending → World → Prop, R = fun e w' => ReqP w w' b me mq P (N + 2) (reqS s r c st p) (reqO s r c st p) (reqE s r c p) e := ⟨_, rfl⟩
    rw [← hR]
    have hb1 := alloc_below w zOut
    have k1 : (w.alloc zOut).heap[w.heap.size]? = some (.cells #[nilV, nilV, nilV] 48 (0, 0)) := World.alloc_heap_new w _
    have h1 := h.below hb1
    have HM := Lib.hid (made_any h1)
    have HH := Lib.hid (has_any h1 r)
    have HI := Lib.hid (is_any h1 c)
    rw [hr] at HH
    rw [hi] at HI
    obtain ⟨q0, q1, q2, q3⟩ := zcells _ _ k1
    have hb2 : Below w.heap.size w (w.alloc zOut).drew := hb1.drew
    have k2 : (w.alloc zOut).drew.heap[w.heap.size]? = some (.cells #[nilV, nilV, nilV] 48 (0, 0)) := k1
    obtain ⟨q0', q1', q2', q3'⟩ := zcells _ _ k2
    obtain ⟨i, hi64, hri⟩ := told_cell h hr
    have ct : (w.alloc zOut).drew.cell? ⟨b, 5 + r.toNat, none⟩ = some (.bool true) := by rw [show r.toNat = i by omega, ← ht, hri]; exact h1.drew.told hi64
    have i0 : (0 : Int) ≤ r := by omega
    have i1 : r < 64 := by omega
    clear hri hi64
    have hb3 : Below w.heap.size w ((((w.alloc zOut).drew).alloc zOut).alloc (.cells #[.int .i64 r, .int .u64 st, .int .i64 p] 71)) := (hb2.trans ((alloc_below _ _).mono hb2.size)).trans ((alloc_below _ _).mono (by simp; omega))
    have h3 := h.below hb3
    have HE := Lib.hid (entry_any h3 hc)
    simp only [ev] at HE
    have hg0 := h.af.lt
    have HD : Hid (∀ W3, Below ((((w.alloc zOut).drew).alloc zOut).alloc (.cells #[.int .i64 r, .int .u64 st, .int .i64 p] 71)).heap.size ((((w.alloc zOut).drew).alloc zOut).alloc (.cells #[.int .i64 r, .int .u64 st, .int .i64 p] 71)) W3 → (W3.alloc (.cells #[.int .i64 (s.E c).r, .int .u32 (s.E c).g] 81)).heap[w.heap.size]? = some (.cells #[nilV, nilV, nilV] 48 (0, 0)) ∧ LO (W3.alloc (.cells #[.int .i64 (s.E c).r, .int .u32 (s.E c).g] 81)) b me mq P N s w.heap.size (w.heap.size + 1) v0 Dn.none ∧ Below w.heap.size w (W3.alloc (.cells #[.int .i64 (s.E c).r, .int .u32 (s.E c).g] 81)) ∧
        (W3.alloc (.cells #[.int .i64 (s.E c).r, .int .u32 (s.E c).g] 81)).heap[w.heap.size + 2]? = some (.cells #[.int .i64 r, .int .u64 st, .int .i64 p] 71 (0, 0)) ∧ (W3.alloc (.cells #[.int .i64 (s.E c).r, .int .u32 (s.E c).g] 81)).heap[W3.heap.size]? = some (.cells #[.int .i64 (s.E c).r, .int .u32 (s.E c).g] 81 (0, 0))) := by
      intro W3 h9'
      have h9 := h9'.trans ((alloc_below W3 (.cells #[.int .i64 (s.E c).r, .int .u32 (s.E c).g] 81)).mono h9'.size)
      have j1 : ((((w.alloc zOut).drew).alloc zOut).alloc (.cells #[.int .i64 r, .int .u64 st, .int .i64 p] 71)).heap[w.heap.size]? = some (.cells #[nilV, nilV, nilV] 48 (0, 0)) := heap_up (heap_up k2)
      have j2 : ((((w.alloc zOut).drew).alloc zOut).alloc (.cells #[.int .i64 r, .int .u64 st, .int .i64 p] 71)).heap[w.heap.size + 1]? = some (.cells #[nilV, nilV, nilV] 48 (0, 0)) := by
        refine heap_up ?_
        have := World.alloc_heap_new (w.alloc zOut).drew zOut
        rw [show (w.alloc zOut).drew.heap.size = w.heap.size + 1 by simp] at this
        exact this
      have j3 : ((((w.alloc zOut).drew).alloc zOut).alloc (.cells #[.int .i64 r, .int .u64 st, .int .i64 p] 71)).heap[w.heap.size + 2]? = some (.cells #[.int .i64 r, .int .u64 st, .int .i64 p] 71 (0, 0)) := by
        have := World.alloc_heap_new (((w.alloc zOut).drew).alloc zOut) (.cells #[.int .i64 r, .int .u64 st, .int .i64 p] 71)
        rw [show (((w.alloc zOut).drew).alloc zOut).heap.size = w.heap.size + 2 by simp] at this
        exact this
      have hb9 := hb3.trans (h9.mono hb3.size)
      exact ⟨(h9.block _ (blk_lt j1)).trans j1, ⟨h3.below h9, OutP.nil hg0 (by omega) ((h9.block _ (blk_lt j2)).trans j2)⟩, hb9, (h9.block _ (blk_lt j3)).trans j3, World.alloc_heap_new W3 _⟩
    have HC : Hid (∀ W3, Below ((((w.alloc zOut).drew).alloc zOut).alloc (.cells #[.int .i64 r, .int .u64 st, .int .i64 p] 71)).heap.size ((((w.alloc zOut).drew).alloc zOut).alloc (.cells #[.int .i64 r, .int .u64 st, .int .i64 p] 71)) W3 → (W3.alloc (.cells #[.int .i64 (s.E c).r, .int .u32 (s.E c).g] 81)).cell? ⟨w.heap.size + 2, 0, none⟩ = some (.int .i64 r) ∧ (W3.alloc (.cells #[.int .i64 (s.E c).r, .int .u32 (s.E c).g] 81)).cell? ⟨w.heap.size + 2, 1, none⟩ = some (.int .u64 st) ∧ (W3.alloc (.cells #[.int .i64 (s.E c).r, .int .u32 (s.E c).g] 81)).cell? ⟨w.heap.size + 2, 2, none⟩ = some (.int .i64 p) ∧ (W3.alloc (.cells #[.int .i64 (s.E c).r, .int .u32 (s.E c).g] 81)).cell? ⟨W3.heap.size, 0, none⟩ = some (.int .i64 (s.E c).r) ∧ (W3.alloc (.cells #[.int .i64 (s.E c).r, .int .u32 (s.E c).g] 81)).cell? ⟨W3.heap.size, 1, none⟩ = some (.int .u32 (s.E c).g)) := by
      intro W3 h9
      obtain ⟨_, _, _, a4, a5⟩ := HD.out W3 h9
      exact ⟨by rw [blk_cell a4]; rfl, by rw [blk_cell a4]; rfl, by rw [blk_cell a4]; rfl, by rw [blk_cell a5]; rfl, by rw [blk_cell a5]; rfl⟩
    have hle0 : Dn.none.le 0 := ⟨Nat.le_refl _, Nat.le_refl _, Nat.le_refl _⟩
    · have hbq : ((s.E c).r == r) = false := by simp [hA]
      · have e1 : reqS s r c st p = grS s c ⟨r, st, p⟩ ∧ reqO s r c st p = grO s c ⟨r, st, p⟩ Dn.none ∧ reqE s r c p = 0 := by unfold reqS reqO reqE; rw [ok0, ht]; simp only [Bool.and_self, if_true, if_neg hA, if_pos hB, and_self]
        have hbq2 : ((s.E c).r == -1) = true := by simp [hB]
        have hq9 := hfr hB
        have HX : Hid (∀ W3, Below ((((w.alloc zOut).drew).alloc zOut).alloc (.cells #[.int .i64 r, .int .u64 st, .int .i64 p] 71)).heap.size ((((w.alloc zOut).drew).alloc zOut).alloc (.cells #[.int .i64 r, .int .u64 st, .int .i64 p] 71)) W3 → Calls Tryd.prog 43 #[.pointer (some ⟨b, 0, none⟩), .pointer (some ⟨w.heap.size + 1, 0, none⟩), .int .i64 c, .agg #[.int .i64 r, .int .u64 st, .int .i64 p]] (W3.alloc (.cells #[.int .i64 (s.E c).r, .int .u32 (s.E c).g] 81)) fun e W5 => e = .returned (.bool (!full s c)) ∧ ∃ v : OV, (∃ A1 n1 c1 A2 n2 c2 A3 n3 c3, v = ⟨.slice A1 n1 c1, .slice A2 n2 c2, .slice A3 n3 c3⟩) ∧ (W5.cell? ⟨w.heap.size + 1, 0, none⟩ = some v.w ∧ W5.cell? ⟨w.heap.size + 1, 1, none⟩ = some v.p ∧ W5.cell? ⟨w.heap.size + 1, 2, none⟩ = some v.b) ∧ W5.heap[w.heap.size]? = some (.cells #[nilV, nilV, nilV] 48 (0, 0)) ∧ R (.returned (.tuple #[.agg #[v.w, v.p, v.b], .int .i64 0])) (((W5.setCell ⟨w.heap.size, 0, none⟩ v.w).setCell ⟨w.heap.size, 1, none⟩ v.p).setCell ⟨w.heap.size, 2, none⟩ v.b)) := by
          intro W3 h9
          obtain ⟨a1, a2, a3, _⟩ := HD.out W3 h9
          refine (grant_any a2 hi ⟨r, st, p⟩ hr (fun x hx => by rw [hq9] at hx; cases hx) (by omega) hle0 (by omega)).mono ?_
          rintro e W5 ⟨rfl, hs⟩
          obtain ⟨v, b0, b1, b2, b3⟩ := fin_out (N2 := N + 2) h a3 a1 (Nat.le_refl _) (by omega) (by omega) (hs.mono (by omega))
          refine ⟨rfl, v, b0, b1, b2, ?_⟩
          rw [hR, e1.1, e1.2.1, e1.2.2]
          exact b3
        generalize (!full s c) = fl at *
        clear hA hB hq9
        clear h h1 h3 hb1 hb2 hb3 hR k1 k2 hc hfr hs0 hs1 HD e1 hi hr hg0 hp0 hp1 ht ok0 HYP d0' d1'
        generalize (s.E c).r = r0 at *
        generalize (s.E c).g = g0 at *
        go_enter Tryd.func17, Tryd.ntmps17
        go_wp2_with fail
        refine HM.out.mono ?_
        rintro e W ⟨rfl, rfl⟩
        go_wp2_with fail
        refine HH.out.mono ?_
        rintro e W ⟨rfl, rfl⟩
        go_wp2_with fail
        refine HI.out.mono ?_
        rintro e W ⟨rfl, rfl⟩
        go_wp2_with fail
        refine HE.out.mono ?_
        rintro e W3 ⟨rfl, h9⟩
        have HY := Lib.hid (HX.out W3 h9)
        obtain ⟨x5, x6, x7, x8, x9⟩ := HC.out W3 h9
        clear h9 HX HE HI HH HM HC q0 q1 q2 q3 q0' q1' q2' q3'
        go_wp2_with fail
        refine HY.out.mono ?_
        rintro e W5 ⟨rfl, v, ⟨A1, n1, c1, A2, n2, c2, A3, n3, c3, rfl⟩, ⟨x0, x1, x2⟩, hk5, hP⟩
        dsimp only at x0 x1 x2 hP
        clear HY
        have f5 := blk_free hk5
        obtain ⟨y0, y1, y2, _⟩ := zcells _ _ hk5
        have hx6 := blk_rec (b1 := .slice A1 n1 c1) (b2 := .slice A2 n2 c2) (b3 := .slice A3 n3 c3) hk5
        have g0 := blk_cell hx6 0
        have g1 := blk_cell hx6 1
        have g2 := blk_cell hx6 2
        simp only [List.getElem?_toArray, List.getElem?_cons_zero, List.getElem?_cons_succ] at g0 g1 g2
        have HF := Lib.hid hP
        clear hP hx6 hk5
        go_wp2
        refine bodyPost_ret (v := .tuple #[.agg #[.slice A1 n1 c1, .slice A2 n2 c2, .slice A3 n3 c3], .int .i64 0]) (by simp [results, Tryd.results17, go_sem, g0, g1, g2]) rfl HF.out

set_option maxHeartbeats 1000000 in
theorem request_wait (h : LedAt w b me mq P N s) (r c st p : Int) (hc : I64 c) (hs0 : 0 ≤ st) (hs1 : st ≤ 18446744073709551615) (hfr : (s.E c).r = -1 → s.Q c = []) (hN : N < 99999980) (HYP : s.has r = true ∧ s.is c = true ∧ 0 ≤ p ∧ p ≤ 15 ∧ s.T r = true) (hA : ¬ (s.E c).r = r) (hB : ¬ (s.E c).r = -1) :
    Calls Tryd.prog 17 #[.pointer (some ⟨b, 0, none⟩), .int .i64 r, .int .i64 c, .int .u64 st, .int .i64 p] w fun e w' => ReqP w w' b me mq P (N + 2) (reqS s r c st p) (reqO s r c st p) (reqE s r c p) e := by
    have hu9 := And.intro hs0 (And.intro hs1 (And.intro hfr (And.intro hN hc)))
    clear hu9
    have hr : s.has r = true := HYP.1
    have hi : s.is c = true := HYP.2.1
    have hp0 : ¬ p < 0 := by have := HYP.2.2.1; omega
    have hp1 : ¬ 15 < p := by have := HYP.2.2.2.1; omega
    have ht : s.T r = true := HYP.2.2.2.2
    have d0 : decide (p < 0) = false := by simpa using hp0
    have d0' : decide (0 ≤ p) = true := by simp; omega
    have d1 : decide (15 < p) = false := by simpa using hp1
    have d1' : decide (p ≤ 15) = true := by simp; omega
    have ok0 : reqOk s r c p = true := by unfold reqOk; rw [hr, hi, d0', d1']; rfl
    obtain ⟨R, hR⟩ : ∃ R : Ending → World → Prop, R = fun e w' => ReqP w w' b me mq P (N + 2) (reqS s r c st p) (reqO s r c st p) (reqE s r c p) e := ⟨_, rfl⟩
    rw [← hR]
    have hb1 := alloc_below w zOut
    have k1 : (w.alloc zOut).heap[w.heap.size]? = some (.cells #[nilV, nilV, nilV] 48 (0, 0)) := World.alloc_heap_new w _
    have h1 := h.below hb1
    have HM := Lib.hid (made_any h1)
    have HH := Lib.hid (has_any h1 r)
    have HI := Lib.hid (is_any h1 c)
    rw [hr] at HH
    rw [hi] at HI
    obtain ⟨q0, q1, q2, q3⟩ := zcells _ _ k1
    have hb2 : Below w.heap.size w (w.alloc zOut).drew := hb1.drew
    have k2 : (w.alloc zOut).drew.heap[w.heap.size]? = some (.cells #[nilV, nilV, nilV] 48 (0, 0)) := k1
    obtain ⟨q0', q1', q2', q3'⟩ := zcells _ _ k2
    obtain ⟨i, hi64, hri⟩ := told_cell h hr
    have ct : (w.alloc zOut).drew.cell? ⟨b, 5 + r.toNat, none⟩ = some (.bool true) := by rw [show r.toNat = i by omega, ← ht, hri]; exact h1.drew.told hi64
    have i0 : (0 : Int) ≤ r := by omega
    have i1 : r < 64 := by omega
    clear hri hi64
    have hb3 : Below w.heap.size w ((((w.alloc zOut).drew).alloc zOut).alloc (.cells #[.int .i64 r, .int .u64 st, .int .i64 p] 71)) := (hb2.trans ((alloc_below _ _).mono hb2.size)).trans ((alloc_below _ _).mono (by simp; omega))
    have h3 := h.below hb3
    have HE := Lib.hid (entry_any h3 hc)
    simp only [ev] at HE
    have hg0 := h.af.lt
    have HD : Hid (∀ W3, Below ((((w.alloc zOut).drew).alloc zOut).alloc (.cells #[.int .i64 r, .int .u64 st, .int .i64 p] 71)).heap.size ((((w.alloc zOut).drew).alloc zOut).alloc (.cells #[.int .i64 r, .int .u64 st, .int .i64 p] 71)) W3 → (W3.alloc (.cells #[.int .i64 (s.E c).r, .int .u32 (s.E c).g] 81)).heap[w.heap.size]? = some (.cells #[nilV, nilV, nilV] 48 (0, 0)) ∧ LO (W3.alloc (.cells #[.int .i64 (s.E c).r, .int .u32 (s.E c).g] 81)) b me mq P N s w.heap.size (w.heap.size + 1) v0 Dn.none ∧ Below w.heap.size w (W3.alloc (.cells #[.int .i64 (s.E c).r, .int .u32 (s.E c).g] 81)) ∧
        (W3.alloc (.cells #[.int .i64 (s.E c).r, .int .u32 (s.E c).g] 81)).heap[w.heap.size + 2]? = some (.cells #[.int .i64 r, .int .u64 st, .int .i64 p] 71 (0, 0)) ∧ (W3.alloc (.cells #[.int .i64 (s.E c).r, .int .u32 (s.E c).g] 81)).heap[W3.heap.size]? = some (.cells #[.int .i64 (s.E c).r, .int .u32 (s.E c).g] 81 (0, 0))) := by
      intro W3 h9'
      have h9 := h9'.trans ((alloc_below W3 (.cells #[.int .i64 (s.E c).r, .int .u32 (s.E c).g] 81)).mono h9'.size)
      have j1 : ((((w.alloc zOut).drew).alloc zOut).alloc (.cells #[.int .i64 r, .int .u64 st, .int .i64 p] 71)).heap[w.heap.size]? = some (.cells #[nilV, nilV, nilV] 48 (0, 0)) := heap_up (heap_up k2)
      have j2 : ((((w.alloc zOut).drew).alloc zOut).alloc (.cells #[.int .i64 r, .int .u64 st, .int .i64 p] 71)).heap[w.heap.size + 1]? = some (.cells #[nilV, nilV, nilV] 48 (0, 0)) := by
        refine heap_up ?_
        have := World.alloc_heap_new (w.alloc zOut).drew zOut
        rw [show (w.alloc zOut).drew.heap.size = w.heap.size + 1 by simp] at this
        exact this
      have j3 : ((((w.alloc zOut).drew).alloc zOut).alloc (.cells #[.int .i64 r, .int .u64 st, .int .i64 p] 71)).heap[w.heap.size + 2]? = some (.cells #[.int .i64 r, .int .u64 st, .int .i64 p] 71 (0, 0)) := by
        have := World.alloc_heap_new (((w.alloc zOut).drew).alloc zOut) (.cells #[.int .i64 r, .int .u64 st, .int .i64 p] 71)
        rw [show (((w.alloc zOut).drew).alloc zOut).heap.size = w.heap.size + 2 by simp] at this
        exact this
      have hb9 := hb3.trans (h9.mono hb3.size)
      exact ⟨(h9.block _ (blk_lt j1)).trans j1, ⟨h3.below h9, OutP.nil hg0 (by omega) ((h9.block _ (blk_lt j2)).trans j2)⟩, hb9, (h9.block _ (blk_lt j3)).trans j3, World.alloc_heap_new W3 _⟩
    have HC : Hid (∀ W3, Below ((((w.alloc zOut).drew).alloc zOut).alloc (.cells #[.int .i64 r, .int .u64 st, .int .i64 p] 71)).heap.size ((((w.alloc zOut).drew).alloc zOut).alloc (.cells #[.int .i64 r, .int .u64 st, .int .i64 p] 71)) W3 → (W3.alloc (.cells #[.int .i64 (s.E c).r, .int .u32 (s.E c).g] 81)).cell? ⟨w.heap.size + 2, 0, none⟩ = some (.int .i64 r) ∧ (W3.alloc (.cells #[.int .i64 (s.E c).r, .int .u32 (s.E c).g] 81)).cell? ⟨w.heap.size + 2, 1, none⟩ = some (.int .u64 st) ∧ (W3.alloc (.cells #[.int .i64 (s.E c).r, .int .u32 (s.E c).g] 81)).cell? ⟨w.heap.size + 2, 2, none⟩ = some (.int .i64 p) ∧ (W3.alloc (.cells #[.int .i64 (s.E c).r, .int .u32 (s.E c).g] 81)).cell? ⟨W3.heap.size, 0, none⟩ = some (.int .i64 (s.E c).r) ∧ (W3.alloc (.cells #[.int .i64 (s.E c).r, .int .u32 (s.E c).g] 81)).cell? ⟨W3.heap.size, 1, none⟩ = some (.int .u32 (s.E c).g)) := by
      intro W3 h9
      obtain ⟨_, _, _, a4, a5⟩ := HD.out W3 h9
      exact ⟨by rw [blk_cell a4]; rfl, by rw [blk_cell a4]; rfl, by rw [blk_cell a4]; rfl, by rw [blk_cell a5]; rfl, by rw [blk_cell a5]; rfl⟩
    have hle0 : Dn.none.le 0 := ⟨Nat.le_refl _, Nat.le_refl _, Nat.le_refl _⟩
    · have hbq : ((s.E c).r == r) = false := by simp [hA]
      · have e1 : reqS s r c st p = awS s c ⟨r, st, p⟩ ∧ reqO s r c st p = awO s c ⟨r, st, p⟩ Dn.none ∧ reqE s r c p = 0 := by unfold reqS reqO reqE; rw [ok0, ht]; simp only [Bool.and_self, if_true, if_neg hA, if_neg hB, and_self]
        have hbq2 : ((s.E c).r == -1) = false := by simp [hB]
        have hmw : MayW s c ⟨r, st, p⟩ := ⟨hr, fun e => hA e.symm, hs0, hs1, by show 0 ≤ p; omega, by show p ≤ 15; omega⟩
        have HX : Hid (∀ W3, Below ((((w.alloc zOut).drew).alloc zOut).alloc (.cells #[.int .i64 r, .int .u64 st, .int .i64 p] 71)).heap.size ((((w.alloc zOut).drew).alloc zOut).alloc (.cells #[.int .i64 r, .int .u64 st, .int .i64 p] 71)) W3 → Calls Tryd.prog 44 #[.pointer (some ⟨b, 0, none⟩), .pointer (some ⟨w.heap.size + 1, 0, none⟩), .int .i64 c, .agg #[.int .i64 r, .int .u64 st, .int .i64 p]] (W3.alloc (.cells #[.int .i64 (s.E c).r, .int .u32 (s.E c).g] 81)) fun e W5 => e = .returned (.tuple #[]) ∧ ∃ v : OV, (∃ A1 n1 c1 A2 n2 c2 A3 n3 c3, v = ⟨.slice A1 n1 c1, .slice A2 n2 c2, .slice A3 n3 c3⟩) ∧ (W5.cell? ⟨w.heap.size + 1, 0, none⟩ = some v.w ∧ W5.cell? ⟨w.heap.size + 1, 1, none⟩ = some v.p ∧ W5.cell? ⟨w.heap.size + 1, 2, none⟩ = some v.b) ∧ W5.heap[w.heap.size]? = some (.cells #[nilV, nilV, nilV] 48 (0, 0)) ∧ R (.returned (.tuple #[.agg #[v.w, v.p, v.b], .int .i64 0])) (((W5.setCell ⟨w.heap.size, 0, none⟩ v.w).setCell ⟨w.heap.size, 1, none⟩ v.p).setCell ⟨w.heap.size, 2, none⟩ v.b)) := by
          intro W3 h9
          obtain ⟨a1, a2, a3, _⟩ := HD.out W3 h9
          refine (await_any a2 hi ⟨r, st, p⟩ hmw (by omega) hle0 (by omega)).mono ?_
          rintro e W5 ⟨rfl, hs⟩
          obtain ⟨v, b0, b1, b2, b3⟩ := fin_out (N2 := N + 2) h a3 a1 (Nat.le_refl _) (by omega) (by omega) (hs.mono (by omega))
          refine ⟨rfl, v, b0, b1, b2, ?_⟩
          rw [hR, e1.1, e1.2.1, e1.2.2]
          exact b3
        clear hA hB hmw
        clear h h1 h3 hb1 hb2 hb3 hR k1 k2 hc hfr hs0 hs1 HD e1 hi hr hg0 hp0 hp1 ht ok0 HYP d0' d1'
        generalize (s.E c).r = r0 at *
        generalize (s.E c).g = g0 at *
        go_enter Tryd.func17, Tryd.ntmps17
        go_wp2_with fail
        refine HM.out.mono ?_
        rintro e W ⟨rfl, rfl⟩
        go_wp2_with fail
        refine HH.out.mono ?_
        rintro e W ⟨rfl, rfl⟩
        go_wp2_with fail
        refine HI.out.mono ?_
        rintro e W ⟨rfl, rfl⟩
        go_wp2_with fail
        refine HE.out.mono ?_
        rintro e W3 ⟨rfl, h9⟩
        have HY := Lib.hid (HX.out W3 h9)
        obtain ⟨x5, x6, x7, x8, x9⟩ := HC.out W3 h9
        clear h9 HX HE HI HH HM HC q0 q1 q2 q3 q0' q1' q2' q3'
        go_wp2_with fail
        refine HY.out.mono ?_
        rintro e W5 ⟨rfl, v, ⟨A1, n1, c1, A2, n2, c2, A3, n3, c3, rfl⟩, ⟨x0, x1, x2⟩, hk5, hP⟩
        dsimp only at x0 x1 x2 hP
        clear HY
        have f5 := blk_free hk5
        obtain ⟨y0, y1, y2, _⟩ := zcells _ _ hk5
        have hx6 := blk_rec (b1 := .slice A1 n1 c1) (b2 := .slice A2 n2 c2) (b3 := .slice A3 n3 c3) hk5
        have g0 := blk_cell hx6 0
        have g1 := blk_cell hx6 1
        have g2 := blk_cell hx6 2
        simp only [List.getElem?_toArray, List.getElem?_cons_zero, List.getElem?_cons_succ] at g0 g1 g2
        have HF := Lib.hid hP
        clear hP hx6 hk5
        go_wp2
        refine bodyPost_ret (v := .tuple #[.agg #[.slice A1 n1 c1, .slice A2 n2 c2, .slice A3 n3 c3], .int .i64 0]) (by simp [results, Tryd.results17, go_sem, g0, g1, g2]) rfl HF.out
theorem request_any (h : LedAt w b me mq P N s) (r c st p : Int) (hc : I64 c) (hs0 : 0 ≤ st) (hs1 : st ≤ 18446744073709551615) (hfr : (s.E c).r = -1 → s.Q c = []) (hN : N < 99999980) :
    Calls Tryd.prog 17 #[.pointer (some ⟨b, 0, none⟩), .int .i64 r, .int .i64 c, .int .u64 st, .int .i64 p] w fun e w' => ReqP w w' b me mq P (N + 2) (reqS s r c st p) (reqO s r c st p) (reqE s r c p) e := by
  by_cases H : s.has r = true ∧ s.is c = true ∧ 0 ≤ p ∧ p ≤ 15 ∧ s.T r = true
  · by_cases hA : (s.E c).r = r
    · exact request_own h r c st p hc hs0 hs1 hfr hN H hA
    · by_cases hB : (s.E c).r = -1
      · exact request_free h r c st p hc hs0 hs1 hfr hN H hA hB
      · exact request_wait h r c st p hc hs0 hs1 hfr hN H hA hB
  · exact request_bad h r c st p hc hs0 hs1 hfr hN H
end
end Go.Proofs.YtlmbbnkdiokabaaDoor
