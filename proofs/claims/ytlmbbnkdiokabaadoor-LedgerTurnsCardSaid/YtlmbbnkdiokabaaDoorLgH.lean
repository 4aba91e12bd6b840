/-
  The chapter's ledger, and its first examples.
-/
import Derived.Test.YtlmbbnkdiokabaaDoorLgF
import Derived.Test.YtlmbbnkdiokabaaDoorLgG
import Derived.Test.YtlmbbnkdiokabaaDoorLgD
namespace Go.Proofs.YtlmbbnkdiokabaaDoor
set_option maxRecDepth 100000
set_option linter.unusedSimpArgs false
open Go Go.RowKit Sp Lg

namespace Lg
theorem sta_none (s : S) (r : Int) (hr : ∀ c, (s.E c).r ≠ r) (cl : List (Int × Int)) : ∀ k, staK s r cl k = (s, Dn.none) := by
  intro k
  induction k with
  | zero => rfl
  | succ k ih =>
    rw [staK_succ, ih]
    unfold staStep staOk
    simp [hr]
theorem leave_none (s : S) (r : Int) (h : ∀ c, s.Q c = []) : s.leave r = s := by
  unfold S.leave
  have : (fun c => cutL (s.Q c) r) = s.Q := by funext c; rw [h c]; rfl
  rw [this]
/-- The chapter's ledger. -/
def fewS : S := ⟨0, 2, 4, fun _ => e0, fun _ => [], fun r => decide (r = 0) || decide (r = 1)⟩
end Lg
theorem cl_nil (b me mq : Nat) (P : Int → Option Nat) (w : World) : ∀ j, j < ([] : List (Int × Int)).length → ∃ a, (none : Option Addr) = some a ∧ ¬ LX b me mq P a.block ∧ a.block < w.heap.size ∧ w.cell? (a.add (j * 2)) = some (.int .i64 (([] : List (Int × Int)).getD j (0, 0)).1) ∧ w.cell? ⟨(a.add (j * 2)).block, (a.add (j * 2)).off + 1, none⟩ = some (.int .u32 (([] : List (Int × Int)).getD j (0, 0)).2) := fun j hj => by simp at hj
section
variable {w : World} {b me mq N : Nat} {P : Int → Option Nat} {s : S} {B : Nat} {v : OV} {q : Dn}
/-- A status of a robot that holds nothing, where nobody waits. -/
theorem status_idle (h : LedAt w b me mq P N s) (r : Int) (hr : s.has r = true) (hE : ∀ c, (s.E c).r ≠ r) (hQ : ∀ c, s.Q c = []) {n : Int} (hgb : GB s n) (hn : n + 1024 < 4294967295) (hN : N < 99990000) :
    Calls Tryd.prog 24 #[.pointer (some ⟨b, 0, none⟩), .int .i64 r, .slice none 0 0] w fun e w' => (∃ v, e = .returned v) ∧ StepL w w' b me mq P (N + 2048) (s.setT r true) := by
  refine (status_any h r (l := []) (cap := 0) (cl_nil b me mq P w) (by simp) hgb hn hN).mono ?_
  intro e w' hs
  unfold StaP at hs
  rw [if_pos hr] at hs
  obtain ⟨k, _, _, v, rfl, _, hst⟩ := hs
  rw [leave_none s r hQ, sta_none s r hE] at hst
  exact ⟨⟨_, rfl⟩, hst⟩
theorem few_any {w : World} (ha : AF w) : Calls Tryd.prog 16 #[] w fun e w' => ∃ b me mq N, e = .returned (.pointer (some ⟨b, 0, none⟩)) ∧ N ≤ 3000 ∧ LedAt w' b me mq (fun _ => none) N fewS ∧ (∀ k, LX b me mq (fun _ => none) k → w.heap.size ≤ k) ∧ Below w.heap.size w w' := by
  go_enter Tryd.func16, Tryd.ntmps16
  go_wp2_with fail
  refine (new_any ha 0 2 4).mono ?_
  intro e W1 hn
  unfold NewP at hn
  rw [if_pos (by decide)] at hn
  obtain ⟨b, me, mq, rfl, hL, hX, hB⟩ := hn
  have HS : Hid (Calls Tryd.prog 24 #[.pointer (some ⟨b, 0, none⟩), .int .i64 1, .slice none 0 0] W1 fun e w' => (∃ v, e = .returned v) ∧ ∃ N, N ≤ 3000 ∧ LedAt w' b me mq (fun _ => none) N fewS ∧ Below w.heap.size w w') := by
    refine (status_idle hL 1 (by decide) (fun c => by show (-1 : Int) ≠ 1; omega) (fun _ => rfl) (n := 0) (fun c => by show (0 : Int) ≤ 0; omega) (by omega) (by omega)).mono ?_
    rintro e w' ⟨hv, P', N', h1, h2, h3, h4⟩
    have hP : P' = fun _ => none := by
      funext c
      exact (h1.none_ c).2 rfl
    rw [hP] at h1
    have hs : (newS 0 2 4).setT 1 true = fewS := by
      unfold newS S.setT fewS
      congr 1
      funext x
      by_cases e : x = 1
      · simp [e]
      · simp [e]
    rw [hs] at h1
    exact ⟨hv, N', by omega, h1, hB.trans (h4.below hX hB.size)⟩
  have HX := Lib.hid hX
  clear hL hX hB
  go_wp2_with fail
  refine HS.out.mono ?_
  rintro e W2 ⟨⟨v, rfl⟩, N', h1, h2, h3⟩
  have HF := Lib.hid (And.intro h1 (And.intro h2 h3))
  clear h1 h2 h3 HS
  go_wp2
  go_ret
  exact ⟨b, me, mq, N', rfl, HF.out.1, HF.out.2.1, HX.out, HF.out.2.2⟩
theorem OutQ.kept {w' : World} {X : Nat → Prop} (h : OutQ w B v q) (hk : Kept X w w') (hX : ∀ k t, Typ w k t → (t = 54 ∨ t = 63 ∨ t = 3 ∨ t = 5) → ¬ X k) : OutQ w' B v q := by
  obtain ⟨ws, h1, h2, h3, h4, h5⟩ := h
  exact ⟨ws, h1, hk.row h2 (fun g hg => hX g _ (own_typ h2 hg).1 (.inl rfl)), hk.row h3 (fun g hg => hX g _ (own_typ h3 hg).1 (.inr (.inl rfl))), hk.row h4 (fun g hg => hX g _ (own_typ h4 hg).1 (.inr (.inr (.inl rfl)))), fun y hy => (h5 y hy).kept hk (fun k hk => hX k _ hk (.inr (.inr (.inr rfl))))⟩
theorem OutQ.led {w' : World} (h : OutQ w B v q) (hl : LedAt w b me mq P N s) (hk : Kept (LX b me mq P) w w') : OutQ w' B v q := by
  refine h.kept hk (fun k t ht hh e => ?_)
  rcases hl.typ e ht with e | e <;> rcases hh with e2 | e2 | e2 | e2 <;> (rw [e2] at e; exact absurd e (by decide))
theorem OutQ.below {w' : World} (h : OutQ w B v q) (hb : Below w.heap.size w w') : OutQ w' B v q := h.kept (keptB hb) (fun _ _ _ _ => id)
theorem row_sl {w : World} {B : Nat} {e : TypeId} {n m : Nat} {u : Value} {xs : List Value} (h : w.ownsRow B e n u m xs) (hm : 0 < m) : ∃ g c, u = .slice (some ⟨g, 0, none⟩) m c ∧ ∀ j x, xs[j]? = some x → w.cell? ⟨g, j, none⟩ = some x := by
  obtain ⟨A, c, rfl⟩ := own_slice h
  rcases h.2 with ⟨_, h0⟩ | ⟨g, cap, cur, e1, hb, hg, _⟩
  · omega
  · injection e1 with e1 e2 e3
    subst e1 e3
    refine ⟨g, c, rfl, fun j x hx => ?_⟩
    have := h.cells rfl j x hx
    rwa [show (⟨g, 0, none⟩ : Addr).add j = ⟨g, j, none⟩ by unfold Addr.add; split <;> simp_all] at this
/-- What is done, as slices that can be read. -/
theorem OutQ.sl (h : OutQ w B v q) : ∃ A1 c1 A2 c2 A3 c3, v = ⟨.slice A1 q.W.length c1, .slice A2 q.ps.length c2, .slice A3 q.bs.length c3⟩ ∧
    (0 < q.ps.length → ∃ g, A2 = some ⟨g, 0, none⟩ ∧ ∀ j x, (csP q.ps)[j]? = some x → w.cell? ⟨g, j, none⟩ = some x) ∧
    (0 < q.bs.length → ∃ g, A3 = some ⟨g, 0, none⟩ ∧ ∀ j x, (csB q.bs)[j]? = some x → w.cell? ⟨g, j, none⟩ = some x) ∧
    ∀ j, j < q.W.length → ∃ g d, A1 = some ⟨g, 0, none⟩ ∧ w.cell? ⟨g, j * 3 + 1, none⟩ = some (.int .i64 (q.W.getD j (0, e0)).1) ∧ w.cell? ⟨g, j * 3 + 2, none⟩ = some d ∧ R8 w d (recB (q.W.getD j (0, e0)).2) := by
  obtain ⟨ws, h1, h2, h3, h4, h5⟩ := h
  obtain ⟨A1, c1, s1⟩ := own_slice h2
  obtain ⟨A2, c2, s2⟩ := own_slice h3
  obtain ⟨A3, c3, s3⟩ := own_slice h4
  have hl : ws.length = q.W.length := OutP.len h1
  refine ⟨A1, c1, A2, c2, A3, c3, (show v = ⟨v.w, v.p, v.b⟩ from rfl).trans (by rw [s1, s2, s3, hl]), fun hp => ?_, fun hp => ?_, fun j hj => ?_⟩
  · obtain ⟨g, c, e, hc⟩ := row_sl h3 hp
    rw [s2] at e; injection e with e
    exact ⟨g, e, hc⟩
  · obtain ⟨g, c, e, hc⟩ := row_sl h4 hp
    rw [s3] at e; injection e with e
    exact ⟨g, e, hc⟩
  · obtain ⟨g, c, e, hc⟩ := row_sl h2 (by omega)
    rw [s1] at e; injection e with e
    have hj2 : j < ws.length := by omega
    have hx : (q.W.getD j (0, e0)) = (ws[j].c, ws[j].e) := by
      rw [← h1]; simp [List.getD, hj2]
    have hget : ∀ k, k < 3 → (csW ws)[j * 3 + k]? = (wcs ws[j])[k]? := by
      intro k hk
      have hsplit : csW ws = csW (ws.take j) ++ (wcs ws[j] ++ csW (ws.drop (j + 1))) := by
        have : ws = ws.take j ++ ws[j] :: ws.drop (j + 1) := by rw [List.getElem_cons_drop, List.take_append_drop]
        exact (congrArg csW this).trans (by simp only [csW, List.flatMap_append, List.flatMap_cons])
      have hlen : ∀ l : List We, (csW l).length = l.length * 3 := by
        intro l
        induction l with
        | nil => rfl
        | cons x l ih => simp only [csW, List.flatMap_cons, List.length_append] at *; rw [ih]; simp [wcs]; omega
      rw [hsplit, List.getElem?_append_right (by rw [hlen, List.length_take]; omega), hlen, List.length_take, show j * 3 + k - min j ws.length * 3 = k by omega, List.getElem?_append_left (by simp [wcs]; omega)]
    refine ⟨g, ws[j].d, e, hc _ _ (by rw [hget 1 (by omega), hx]; rfl), hc _ _ (by rw [hget 2 (by omega)]; rfl), ?_⟩
    rw [hx]
    exact h5 _ (List.getElem_mem hj2)
end
/-- Two messages that are the same one. -/
theorem msame_any (w : World) (k c g s p o : Int) : Calls Tryd.prog 47 #[mgv k c g s p o, mgv k c g s p o] w fun e w' => e = .returned (.bool true) ∧ Below w.heap.size w w' := by
  obtain ⟨R, hR⟩ : ∃ R : Ending → World → Prop, R = fun e w' => e = .returned (.bool true) ∧ Below w.heap.size w w' := ⟨_, rfl⟩
  have HR : Hid (∀ t t' c c', R (.returned (.bool true)) ((w.alloc (.cells c t)).alloc (.cells c' t'))) := by
    rw [hR]; exact fun t t' c c' => ⟨rfl, (alloc_below w _).trans ((alloc_below _ _).mono (by simp))⟩
  rw [← hR]
  clear hR
  go_enter Tryd.func47, Tryd.ntmps47
  go_wp2
  obtain ⟨o1, ho1⟩ : ∃ o1 : Array Value, o1 = #[.int .i64 k, .int .i64 c, .int .u32 g, .int .u64 s, .int .i64 p, .int .i64 0, .int .i64 0, .int .i64 o, .slice none 0 0] := ⟨_, rfl⟩
  rw [← ho1]
  have hc8 : ((w.alloc (.cells o1 61)).alloc (.cells o1 61)).cell? ⟨w.heap.size, 8, none⟩ = some (.slice none 0 0) := by
    have : ((w.alloc (.cells o1 61)).alloc (.cells o1 61)).heap[w.heap.size]? = some (.cells o1 61 (0, 0)) := heap_up (World.alloc_heap_new w _)
    rw [blk_cell this, ho1]; rfl
  have HF := Lib.hid (HR.out 61 61 o1 o1)
  clear ho1
  generalize (w.alloc (.cells o1 61)).alloc (.cells o1 61) = W at *
  go_loopw [5] (fun u wr => u = .int .i64 0 ∧ wr = W) (fun _ _ => 0)
  case atStart => exact ⟨rfl, rfl⟩
  case round =>
    obtain ⟨rfl, rfl⟩ := hrel
    go_wp2
    exact HF.out
end Go.Proofs.YtlmbbnkdiokabaaDoor
