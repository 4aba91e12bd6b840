/-
  Release, Request: what they answer.
-/
import Derived.Test.YtlmbbnkdiokabaaDoorLgB
namespace Go.Proofs.YtlmbbnkdiokabaaDoor
set_option maxRecDepth 100000
set_option linter.unusedSimpArgs false
open Go Go.RowKit Sp Lg

/-- What is done, by value. -/
def OutQ (w : World) (B : Nat) (v : OV) (q : Dn) : Prop := ∃ ws : List We, ws.map (fun x => (x.c, x.e)) = q.W ∧
  w.ownsRow B 54 3 v.w ws.length (csW ws) ∧ w.ownsRow B 63 10 v.p q.ps.length (csP q.ps) ∧ w.ownsRow B 3 1 v.b q.bs.length (csB q.bs) ∧ ∀ x ∈ ws, R8 w x.d (recB x.e)
@[reducible] def nilV : Value := .slice none 0 0
@[reducible] def zOut : Obj := .cells #[nilV, nilV, nilV] 48
def v0 : OV := ⟨nilV, nilV, nilV⟩
/-- What a call answers that does something: what is done, and the error. -/
def ReqP (w w' : World) (b me mq : Nat) (P : Int → Option Nat) (N : Nat) (s' : S) (q' : Dn) (err : Int) (e : Ending) : Prop :=
  ∃ v : OV, e = .returned (.tuple #[.agg #[v.w, v.p, v.b], .int .i64 err]) ∧ OutQ w' w.heap.size v q' ∧ StepL w w' b me mq P N s'
theorem OutQ.nil (w : World) (B : Nat) : OutQ w B v0 Dn.none := ⟨[], rfl, World.ownsRow_nil _ _ _ _, World.ownsRow_nil _ _ _ _, World.ownsRow_nil _ _ _ _, fun _ h => by cases h⟩
theorem OutP.nil {w : World} {B o : Nat} (hB : 0 < B) (hB2 : B ≤ o) (h : w.heap[o]? = some (.cells #[nilV, nilV, nilV] 48 (0, 0))) : OutP w B o v0 Dn.none :=
  ⟨hB, Nat.le_trans hB2 (Nat.le_of_lt (blk_lt h)), [], rfl, h, hB2, World.ownsRow_nil _ _ _ _, World.ownsRow_nil _ _ _ _, World.ownsRow_nil _ _ _ _, fun _ h => by cases h⟩
section
variable {w W4 W5 : World} {b me mq N N2 o k : Nat} {P : Int → Option Nat} {s s' : S} {q' : Dn}
theorem StepL.of_below {w1 w' : World} (hb : Below w.heap.size w w1) (h : StepL w1 w' b me mq P N s') : StepL w w' b me mq P N s' := by
  obtain ⟨P', N', h1, h2, h3, h4⟩ := h
  exact ⟨P', N', h1, h2, fun c k e => (h3 c k e).imp id (fun h => Nat.le_trans hb.size h), ((keptB hb).mono (fun _ _ h => h.elim)).trans h4 (fun _ _ h => h)⟩
theorem StepL.trans {w1 w' : World} {P1 : Int → Option Nat} (hP : ∀ c k, P1 c = some k → P c = some k ∨ w.heap.size ≤ k) (hk : Kept (LX b me mq P) w w1) (h : StepL w1 w' b me mq P1 N s') : StepL w w' b me mq P N s' := by
  obtain ⟨P', N', h1, h2, h3, h4⟩ := h
  refine ⟨P', N', h1, h2, fun c k e => ?_, hk.trans h4 (fun i hi e => ?_)⟩
  · rcases h3 c k e with e | e
    · exact hP c k e
    · exact .inr (Nat.le_trans hk.size e)
  · rcases LX.grow hP e with e | e
    · exact e
    · omega
theorem StepL.then_below {V V' : World} (h : StepL w V b me mq P N s') (hb : Below V.heap.size V V') : StepL w V' b me mq P N s' := by
  obtain ⟨P', N', h1, h2, h3, h4⟩ := h
  exact ⟨P', N', h1.below hb, h2, h3, h4.trans ((keptB hb).mono (Y := fun _ => False) (fun _ _ h => h)) (fun _ _ h => h.elim)⟩
/-- The end of such a call: what is done is laid into the result's cells. -/
theorem fin_out (h : LedAt w b me mq P N s) (hb : Below w.heap.size w W4) (h4 : W4.heap[k]? = some (.cells #[nilV, nilV, nilV] 48 (0, 0))) (hk : w.heap.size ≤ k) (ho : w.heap.size ≤ o) (hok : k ≠ o)
    (hst : StepLO W4 W5 b me mq P N2 s' w.heap.size o v0 q') :
    ∃ v : OV, (∃ A1 n1 c1 A2 n2 c2 A3 n3 c3, v = ⟨.slice A1 n1 c1, .slice A2 n2 c2, .slice A3 n3 c3⟩) ∧ (W5.cell? ⟨o, 0, none⟩ = some v.w ∧ W5.cell? ⟨o, 1, none⟩ = some v.p ∧ W5.cell? ⟨o, 2, none⟩ = some v.b) ∧ W5.heap[k]? = some (.cells #[nilV, nilV, nilV] 48 (0, 0)) ∧
      ReqP w (((W5.setCell ⟨k, 0, none⟩ v.w).setCell ⟨k, 1, none⟩ v.p).setCell ⟨k, 2, none⟩ v.b) b me mq P N2 s' q' 0 (.returned (.tuple #[.agg #[v.w, v.p, v.b], .int .i64 0])) := by
  obtain ⟨P', N', v, h1, h2, h3, h5, h6⟩ := hst
  obtain ⟨hB1, hB2, ws, hws, hO⟩ := h1.out
  have hk5 : W5.heap[k]? = some (.cells #[nilV, nilV, nilV] 48 (0, 0)) := by
    refine (h6.block k (blk_lt h4) ?_).trans h4
    rintro (e | e)
    · have := h.lt e; omega
    · rcases e with e | e | e | e
      · exact hok e
      · cases e
      · cases e
      · cases e
  have hkz := blk_lt h4
  have nk : ¬ (LX b me mq P' k ∨ OfO o v k) := by
    rintro (e | e)
    · rcases h1.led.typ e ⟨_, _, hk5⟩ with e | e <;> exact absurd e (by decide)
    · rcases h5 k e with e | e
      · rcases e with e | e | e | e
        · exact hok e
        · cases e
        · cases e
        · cases e
      · omega
  have hk3 : Kept (fun i => i = k) W5 (((W5.setCell ⟨k, 0, none⟩ v.w).setCell ⟨k, 1, none⟩ v.p).setCell ⟨k, 2, none⟩ v.b) :=
    (((Kept.refl (fun i => i = k) W5).setCell (p := ⟨k, 0, none⟩) (.inl rfl) _).setCell (p := ⟨k, 1, none⟩) (.inl rfl) _).setCell (p := ⟨k, 2, none⟩) (.inl rfl) _
  have n8 : ∀ i, Typ W5 i 5 → ¬ i = k := fun i hi e => by subst e; exact absurd (hi.eq ⟨_, _, hk5⟩) (by decide)
  obtain ⟨A1, c1, s1⟩ := own_slice hO.rw_
  obtain ⟨A2, c2, s2⟩ := own_slice hO.rp
  obtain ⟨A3, c3, s3⟩ := own_slice hO.rb
  refine ⟨v, ⟨A1, ws.length, c1, A2, q'.ps.length, c2, A3, q'.bs.length, c3, (show v = ⟨v.w, v.p, v.b⟩ from rfl).trans (by rw [s1, s2, s3])⟩, ⟨by rw [blk_cell hO.blk]; rfl, by rw [blk_cell hO.blk]; rfl, by rw [blk_cell hO.blk]; rfl⟩, hk5, v, rfl, ⟨ws, hws, ?_, ?_, ?_, fun x hx => (hO.dat x hx).kept hk3 n8⟩, ?_⟩
  · exact hk3.row hO.rw_ (fun g hg e => nk (.inr (.inr (.inl (by rw [← e]; exact hg)))))
  · exact hk3.row hO.rp (fun g hg e => nk (.inr (.inr (.inr (.inl (by rw [← e]; exact hg))))))
  · exact hk3.row hO.rb (fun g hg e => nk (.inr (.inr (.inr (.inr (by rw [← e]; exact hg))))))
  · have h7 : LedAt (((W5.setCell ⟨k, 0, none⟩ v.w).setCell ⟨k, 1, none⟩ v.p).setCell ⟨k, 2, none⟩ v.b) b me mq P' N' s' := h1.led.kept hk3 (fun i hi e => nk (.inl (by rw [← e]; exact hi))) (fun e => by have := h.af.lt; omega)
    refine ⟨P', N', h7, h2, fun c i e => (h3 c i e).imp id (fun e => Nat.le_trans hb.size e), ?_⟩
    refine (((keptB hb).mono (Y := LX b me mq P) (fun _ _ e => e.elim)).trans h6 (fun i hi e => ?_)).trans hk3 (fun i hi e => by omega)
    rcases e with e | e
    · exact e
    · rcases e with e | e | e | e
      · omega
      · cases e
      · cases e
      · cases e
theorem req_err (h : LedAt w b me mq P N s) {w' : World} (hb : Below w.heap.size w w') (err : Int) : ReqP w w' b me mq P N s Dn.none err (.returned (.tuple #[.agg #[nilV, nilV, nilV], .int .i64 err])) :=
  ⟨v0, rfl, OutQ.nil _ _, P, N, h.below hb, Nat.le_refl _, fun _ _ e => .inl e, (keptB hb).mono (fun _ _ e => e.elim)⟩
end

namespace Lg
def relOk (s : S) (r c : Int) : Bool := s.has r && s.is c
def relHit (s : S) (r c g : Int) : Bool := decide ((s.E c).r = r) && decide ((s.E c).g = g)
def relS (s : S) (r c g : Int) : S := if relOk s r c && relHit s r c g then freS s c else s
def relO (s : S) (r c g : Int) : Dn := if relOk s r c && relHit s r c g then freO s c Dn.none else Dn.none
def relE (s : S) (r c : Int) : Int := if relOk s r c then 0 else 2
end Lg
theorem zcells (W : World) (k : Nat) (h : W.heap[k]? = some (.cells #[nilV, nilV, nilV] 48 (0, 0))) : W.cell? ⟨k, 0, none⟩ = some nilV ∧ W.cell? ⟨k, 1, none⟩ = some nilV ∧ W.cell? ⟨k, 2, none⟩ = some nilV ∧ ∀ j, W.frozen? ⟨k, j, none⟩ = false :=
  ⟨by rw [blk_cell h]; rfl, by rw [blk_cell h]; rfl, by rw [blk_cell h]; rfl, blk_free h⟩
section
variable {w : World} {b me mq N : Nat} {P : Int → Option Nat} {s : S}
set_option maxHeartbeats 2000000 in
theorem release_any (h : LedAt w b me mq P N s) (r c g : Int) (hc : I64 c) (hf : full s c = false) (hN : N < 99999990) :
    Calls Tryd.prog 25 #[.pointer (some ⟨b, 0, none⟩), .int .i64 r, .int .i64 c, .int .u32 g] w fun e w' => ReqP w w' b me mq P (N + 2) (relS s r c g) (relO s r c g) (relE s r c) e := by
  obtain ⟨R, hR⟩ : ∃ R : Ending → World → Prop, R = fun e w' => ReqP w w' b me mq P (N + 2) (relS s r c g) (relO s r c g) (relE s r c) e := ⟨_, rfl⟩
  rw [← hR]
  have hb1 := alloc_below w zOut
  have k1 : (w.alloc zOut).heap[w.heap.size]? = some (.cells #[nilV, nilV, nilV] 48 (0, 0)) := World.alloc_heap_new w _
  have h1 := h.below hb1
  have HM := Lib.hid (made_any h1)
  have HH := Lib.hid (has_any h1 r)
  have HI := Lib.hid (is_any h1 c)
  obtain ⟨q0, q1, q2, q3⟩ := zcells _ _ k1
  cases hr : s.has r with
  | false =>
    have HF : Hid (R (.returned (.tuple #[.agg #[nilV, nilV, nilV], .int .i64 2])) (w.alloc zOut)) := by
      rw [hR]
      have e0 : relOk s r c = false := by unfold relOk; rw [hr]; simp
      have e1 : relS s r c g = s ∧ relO s r c g = Dn.none ∧ relE s r c = 2 := by unfold relS relO relE; rw [e0]; exact ⟨rfl, rfl, rfl⟩
      dsimp only
      rw [e1.1, e1.2.1, e1.2.2]
      obtain ⟨v, a1, a2, P', N', a3, a4, a5⟩ := req_err h hb1 2
      exact ⟨v, a1, a2, P', N', a3, by omega, a5⟩
    rw [hr] at HH
    clear h h1 hb1 hR k1 hc hf
    go_enter Tryd.func25, Tryd.ntmps25
    go_wp2_with fail
    refine HM.out.mono ?_
    rintro e W ⟨rfl, rfl⟩
    go_wp2_with fail
    refine HH.out.mono ?_
    rintro e W ⟨rfl, rfl⟩
    go_wp2
    refine bodyPost_ret (v := .tuple #[.agg #[nilV, nilV, nilV], .int .i64 2]) (by simp [results, Tryd.results25, go_sem, q0, q1, q2]) rfl HF.out
  | true =>
  have hb2 : Below w.heap.size w (w.alloc zOut).drew := hb1.drew
  have k2 : (w.alloc zOut).drew.heap[w.heap.size]? = some (.cells #[nilV, nilV, nilV] 48 (0, 0)) := k1
  obtain ⟨q0', q1', q2', q3'⟩ := zcells _ _ k2
  cases hi : s.is c with
  | false =>
    have HF : Hid (R (.returned (.tuple #[.agg #[nilV, nilV, nilV], .int .i64 2])) (w.alloc zOut).drew) := by
      rw [hR]
      have e0 : relOk s r c = false := by unfold relOk; rw [hi]; simp
      have e1 : relS s r c g = s ∧ relO s r c g = Dn.none ∧ relE s r c = 2 := by unfold relS relO relE; rw [e0]; exact ⟨rfl, rfl, rfl⟩
      dsimp only
      rw [e1.1, e1.2.1, e1.2.2]
      obtain ⟨v, a1, a2, P', N', a3, a4, a5⟩ := req_err h hb2 2
      exact ⟨v, a1, a2, P', N', a3, by omega, a5⟩
    rw [hr] at HH
    rw [hi] at HI
    clear h h1 hb1 hb2 hR k1 k2 hc hf
    go_enter Tryd.func25, Tryd.ntmps25
    go_wp2_with fail
    refine HM.out.mono ?_
    rintro e W ⟨rfl, rfl⟩
    go_wp2_with fail
    refine HH.out.mono ?_
    rintro e W ⟨rfl, rfl⟩
    go_wp2_with fail
    refine HI.out.mono ?_
    rintro e W ⟨rfl, rfl⟩
    go_wp2
    refine bodyPost_ret (v := .tuple #[.agg #[nilV, nilV, nilV], .int .i64 2]) (by simp [results, Tryd.results25, go_sem, q0', q1', q2']) rfl HF.out
  | true =>
    have hb3 : Below w.heap.size w ((w.alloc zOut).drew.alloc zOut) := hb2.trans ((alloc_below _ _).mono hb2.size)
    have h3 := h.below hb3
    have HE := Lib.hid (entry_any h3 hc)
    simp only [ev] at HE
    have hg0 := h.af.lt
    have HD : Hid (∀ W3, Below ((w.alloc zOut).drew.alloc zOut).heap.size ((w.alloc zOut).drew.alloc zOut) W3 → W3.heap[w.heap.size]? = some (.cells #[nilV, nilV, nilV] 48 (0, 0)) ∧ LO W3 b me mq P N s w.heap.size (w.heap.size + 1) v0 Dn.none ∧ Below w.heap.size w W3) := by
      intro W3 h9
      have j1 : ((w.alloc zOut).drew.alloc zOut).heap[w.heap.size]? = some (.cells #[nilV, nilV, nilV] 48 (0, 0)) := heap_up k2
      have j2 : ((w.alloc zOut).drew.alloc zOut).heap[w.heap.size + 1]? = some (.cells #[nilV, nilV, nilV] 48 (0, 0)) := by
        have := World.alloc_heap_new (w.alloc zOut).drew zOut
        rw [show (w.alloc zOut).drew.heap.size = w.heap.size + 1 by simp] at this
        exact this
      have hb9 := hb3.trans (h9.mono hb3.size)
      exact ⟨(h9.block _ (blk_lt j1)).trans j1, ⟨h3.below h9, OutP.nil hg0 (by omega) ((h9.block _ (blk_lt j2)).trans j2)⟩, hb9⟩
    have e0 : relOk s r c = true := by unfold relOk; rw [hr, hi]; rfl
    have q81 := eqEn
    rw [hr] at HH
    rw [hi] at HI
    cases hh : relHit s r c g with
    | false =>
      have e1 : relS s r c g = s ∧ relO s r c g = Dn.none ∧ relE s r c = 0 := by unfold relS relO relE; rw [e0, hh]; exact ⟨rfl, rfl, rfl⟩
      have hbq : ((s.E c).r == r && (s.E c).g == g) = false := by
        unfold relHit at hh
        rw [← hh]
        by_cases e1 : (s.E c).r = r <;> by_cases e2 : (s.E c).g = g <;> simp [e1, e2]
      have HX : Hid (∀ W3, Below ((w.alloc zOut).drew.alloc zOut).heap.size ((w.alloc zOut).drew.alloc zOut) W3 → ∃ v : OV, (∃ A1 n1 c1 A2 n2 c2 A3 n3 c3, v = ⟨.slice A1 n1 c1, .slice A2 n2 c2, .slice A3 n3 c3⟩) ∧ (W3.cell? ⟨w.heap.size + 1, 0, none⟩ = some v.w ∧ W3.cell? ⟨w.heap.size + 1, 1, none⟩ = some v.p ∧ W3.cell? ⟨w.heap.size + 1, 2, none⟩ = some v.b) ∧ W3.heap[w.heap.size]? = some (.cells #[nilV, nilV, nilV] 48 (0, 0)) ∧
          R (.returned (.tuple #[.agg #[v.w, v.p, v.b], .int .i64 0])) (((W3.setCell ⟨w.heap.size, 0, none⟩ v.w).setCell ⟨w.heap.size, 1, none⟩ v.p).setCell ⟨w.heap.size, 2, none⟩ v.b)) := by
        intro W3 h9
        obtain ⟨a1, a2, a3⟩ := HD.out W3 h9
        obtain ⟨v, b0, b1, b2, b3⟩ := fin_out (N2 := N + 2) h a3 a1 (Nat.le_refl _) (by omega) (by omega) (StepLO.refl a2 (by omega))
        refine ⟨v, b0, b1, b2, ?_⟩
        rw [hR, e1.1, e1.2.1, e1.2.2]
        exact b3
      clear h h1 h3 hb1 hb2 hb3 hR k1 k2 hc hf HD e1 e0 hh hi hr hg0
      generalize (s.E c).r = r0 at *
      generalize (s.E c).g = g0 at *
      go_enter Tryd.func25, Tryd.ntmps25
      go_wp2_with fail
      refine HM.out.mono ?_
      rintro e W ⟨rfl, rfl⟩
      go_wp2_with fail
      refine HH.out.mono ?_
      rintro e W ⟨rfl, rfl⟩
      go_wp2_with fail
      refine HI.out.mono ?_
      rintro e W ⟨rfl, rfl⟩
      go_wp2_with fail
      refine HE.out.mono ?_
      rintro e W5 ⟨rfl, h9⟩
      obtain ⟨v, ⟨A1, n1, c1, A2, n2, c2, A3, n3, c3, rfl⟩, ⟨x0, x1, x2⟩, hk5, hP⟩ := HX.out W5 h9
      dsimp only at x0 x1 x2 hP
      clear h9 HX HE HI HH HM q0 q1 q2 q3 q0' q1' q2' q3'
      have hx5 := hk5
      have f5 := blk_free hk5
      obtain ⟨y0, y1, y2, _⟩ := zcells _ _ hk5
      have hx6 := blk_rec (b1 := .slice A1 n1 c1) (b2 := .slice A2 n2 c2) (b3 := .slice A3 n3 c3) hk5
      have g0 := blk_cell hx6 0
      have g1 := blk_cell hx6 1
      have g2 := blk_cell hx6 2
      simp only [List.getElem?_toArray, List.getElem?_cons_zero, List.getElem?_cons_succ] at g0 g1 g2
      have HF := Lib.hid hP
      clear hP hx5 hx6 hk5
      go_wp2
      refine bodyPost_ret (v := .tuple #[.agg #[.slice A1 n1 c1, .slice A2 n2 c2, .slice A3 n3 c3], .int .i64 0]) (by simp [results, Tryd.results25, go_sem, g0, g1, g2]) rfl HF.out
    | true =>
      have e1 : relS s r c g = freS s c ∧ relO s r c g = freO s c Dn.none ∧ relE s r c = 0 := by unfold relS relO relE; rw [e0, hh]; exact ⟨rfl, rfl, rfl⟩
      have hbq : ((s.E c).r == r && (s.E c).g == g) = true := by
        unfold relHit at hh
        simp only [Bool.and_eq_true, decide_eq_true_eq] at hh
        simp [hh.1, hh.2]
      have HX : Hid (∀ W3, Below ((w.alloc zOut).drew.alloc zOut).heap.size ((w.alloc zOut).drew.alloc zOut) W3 → Calls Tryd.prog 50 #[.pointer (some ⟨b, 0, none⟩), .pointer (some ⟨w.heap.size + 1, 0, none⟩), .int .i64 c] W3 fun e W5 => e = .returned (.tuple #[]) ∧ ∃ v : OV, (∃ A1 n1 c1 A2 n2 c2 A3 n3 c3, v = ⟨.slice A1 n1 c1, .slice A2 n2 c2, .slice A3 n3 c3⟩) ∧ (W5.cell? ⟨w.heap.size + 1, 0, none⟩ = some v.w ∧ W5.cell? ⟨w.heap.size + 1, 1, none⟩ = some v.p ∧ W5.cell? ⟨w.heap.size + 1, 2, none⟩ = some v.b) ∧ W5.heap[w.heap.size]? = some (.cells #[nilV, nilV, nilV] 48 (0, 0)) ∧
          R (.returned (.tuple #[.agg #[v.w, v.p, v.b], .int .i64 0])) (((W5.setCell ⟨w.heap.size, 0, none⟩ v.w).setCell ⟨w.heap.size, 1, none⟩ v.p).setCell ⟨w.heap.size, 2, none⟩ v.b)) := by
        intro W3 h9
        obtain ⟨a1, a2, a3⟩ := HD.out W3 h9
        refine (free_any a2 hi hf hN (n := 0) ⟨Nat.le_refl _, Nat.le_refl _, Nat.le_refl _⟩ (by omega)).mono ?_
        rintro e W5 ⟨rfl, hs⟩
        obtain ⟨v, b0, b1, b2, b3⟩ := fin_out (N2 := N + 2) h a3 a1 (Nat.le_refl _) (by omega) (by omega) hs
        refine ⟨rfl, v, b0, b1, b2, ?_⟩
        rw [hR, e1.1, e1.2.1, e1.2.2]
        exact b3
      clear h h1 h3 hb1 hb2 hb3 hR k1 k2 hc hf HD e1 e0 hh hi hr hg0
      generalize (s.E c).r = r0 at *
      generalize (s.E c).g = g0 at *
      go_enter Tryd.func25, Tryd.ntmps25
      go_wp2_with fail
      refine HM.out.mono ?_
      rintro e W ⟨rfl, rfl⟩
      go_wp2_with fail
      refine HH.out.mono ?_
      rintro e W ⟨rfl, rfl⟩
      go_wp2_with fail
      refine HI.out.mono ?_
      rintro e W ⟨rfl, rfl⟩
      go_wp2_with fail
      refine HE.out.mono ?_
      rintro e W3 ⟨rfl, h9⟩
      have HY := Lib.hid (HX.out W3 h9)
      clear h9 HX HE HI HH HM q0 q1 q2 q3 q0' q1' q2' q3'
      go_wp2_with fail
      refine HY.out.mono ?_
      rintro e W5 ⟨rfl, v, ⟨A1, n1, c1, A2, n2, c2, A3, n3, c3, rfl⟩, ⟨x0, x1, x2⟩, hk5, hP⟩
      dsimp only at x0 x1 x2 hP
      clear HY
      have hx5 := hk5
      have f5 := blk_free hk5
      obtain ⟨y0, y1, y2, _⟩ := zcells _ _ hk5
      have hx6 := blk_rec (b1 := .slice A1 n1 c1) (b2 := .slice A2 n2 c2) (b3 := .slice A3 n3 c3) hk5
      have g0 := blk_cell hx6 0
      have g1 := blk_cell hx6 1
      have g2 := blk_cell hx6 2
      simp only [List.getElem?_toArray, List.getElem?_cons_zero, List.getElem?_cons_succ] at g0 g1 g2
      have HF := Lib.hid hP
      clear hP hx5 hx6 hk5
      go_wp2
      refine bodyPost_ret (v := .tuple #[.agg #[.slice A1 n1 c1, .slice A2 n2 c2, .slice A3 n3 c3], .int .i64 0]) (by simp [results, Tryd.results25, go_sem, g0, g1, g2]) rfl HF.out
end
end Go.Proofs.YtlmbbnkdiokabaaDoor
