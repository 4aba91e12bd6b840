/-
  turn: a cell's entry becomes another one.
-/
import Derived.Test.YtlmbbnkdiokabaaDoorLg4
namespace Go.Proofs.YtlmbbnkdiokabaaDoor
set_option maxRecDepth 100000
set_option linter.unusedSimpArgs false
open Go Go.RowKit Sp Lg

namespace Lg
theorem Ok.i64 {s : S} (h : Ok s) {c : Int} (hc : s.is c = true) : I64 c := by
  unfold S.is at hc
  simp only [Bool.and_eq_true, decide_eq_true_eq] at hc
  have := h.C1
  unfold I64; omega
theorem Ok.turn {s : S} (h : Ok s) {c : Int} (hc : s.is c = true) {en : En} (hr : en.r = -1 ∨ s.has en.r = true) (hg : 0 ≤ en.g ∧ en.g ≤ 4294967295) (hq : ∀ x ∈ s.Q c, x.r ≠ en.r) : Ok (s.turn c en) where
  h0 := h.h0
  hR := h.hR
  R1 := h.R1
  C0 := h.C0
  C1 := h.C1
  out := fun x hx => by
    have hne : x ≠ c := fun e => by subst e; have : s.is x = false := hx; rw [hc] at this; cases this
    have := h.out x hx
    exact ⟨by show (if x = c then en else s.E x) = e0; rw [if_neg hne]; exact this.1, this.2⟩
  q := h.q
  qr := fun x y hy => by
    have := h.qr x y hy
    refine ⟨this.1, ?_, this.2.2⟩
    show y.r ≠ (if x = c then en else s.E x).r
    by_cases e : x = c
    · subst e; rw [if_pos rfl]; exact hq y hy
    · rw [if_neg e]; exact this.2.1
  er := fun x => by
    show (if x = c then en else s.E x).r = -1 ∨ s.has (if x = c then en else s.E x).r = true
    by_cases e : x = c
    · rw [if_pos e]; exact hr
    · rw [if_neg e]; exact h.er x
  eg := fun x => by
    show 0 ≤ (if x = c then en else s.E x).g ∧ (if x = c then en else s.E x).g ≤ 4294967295
    by_cases e : x = c
    · rw [if_pos e]; exact hg
    · rw [if_neg e]; exact h.eg x
end Lg

section
variable {w : World} {b me mq N : Nat} {P : Int → Option Nat} {s : S}
/-- The entries turned, whatever else stays. -/
theorem LedAt.withE {w' : World} (h : LedAt w b me mq P N s) {N' : Nat} {s' : S} (hm : MapV w' 3 keyI me N' (entF s'.E)) (hk : Kept (fun k => k = me) w w') (hh : s'.h = s.h ∧ s'.R = s.R ∧ s'.C = s.C ∧ s'.Q = s.Q ∧ s'.T = s.T) (hN : N ≤ N') (hok : Lg.Ok s') : LedAt w' b me mq P N' s' := by
  obtain ⟨e1, e2, e3, e4, e5⟩ := hh
  refine ⟨?_, hm, (h.ques.kept hk (fun e => h.ne e.symm)).mono hN, fun c => by rw [e4]; exact h.none_ c, fun c o e => by rw [e4]; exact (h.some_ c o e).kept hk (h.p_ne e).2.1, h.inj, h.ne, h.af.kept hk (fun e => h.ng me (.inr (.inl rfl)) e.symm), h.ng, hok⟩
  rw [hk.block b (blk_lt h.blk) h.b_me, h.blk]
  unfold lc
  rw [e1, e2, e3, e5]
/-- m[c] = e, in a ledger's entries. -/
theorem LedAt.putE (h : LedAt w b me mq P N s) {c : Int} (hc : s.is c = true) {en : En} (hne : en ≠ e0) (hr : en.r = -1 ∨ s.has en.r = true) (hg : 0 ≤ en.g ∧ en.g ≤ 4294967295) (hq : ∀ x ∈ s.Q c, x.r ≠ en.r) (hN : N < 99999999) :
    ∃ w', (Instr.mapUpdate 84 (.map (some me)) (.int .i64 c) (ev en.r en.g)).run Tryd.prog w = .ok () w' ∧ LedAt w' b me mq P (N + 1) (s.turn c en) ∧ Kept (fun k => k = me) w w' := by
  obtain ⟨w', h1, h2, h3⟩ := h.ents.put (g := entF (s.turn c en).E) keyI_keyed Tryd.underlying84 (by omega) (keyI_of (h.ok.i64 hc)) (keyI_lit c) (ev en.r en.g)
    (by unfold entF S.turn; simp [hne]) (fun y hy => by have : y ≠ c := fun e => hy (by rw [e]); unfold entF S.turn; simp [this]) (fun y => keyI_inj)
  exact ⟨w', h1, h.withE h2 h3 ⟨rfl, rfl, rfl, rfl, rfl⟩ (by omega) (h.ok.turn hc hr hg hq), h3⟩
/-- delete(m, c), in a ledger's entries. -/
theorem LedAt.delE (h : LedAt w b me mq P N s) {c : Int} (hc : s.is c = true) (hq : ∀ x ∈ s.Q c, x.r ≠ -1) (ty : TypeId) :
    ∃ w', (Builtin.delete_ #[84, 3] ty #[.map (some me), .int .i64 c]).run Tryd.prog w = .ok (.tuple #[]) w' ∧ LedAt w' b me mq P N (s.turn c e0) ∧ Kept (fun k => k = me) w w' := by
  obtain ⟨w', h1, h2, h3⟩ := h.ents.del (g := entF (s.turn c e0).E) keyI_keyed Tryd.underlying84 (keyI_of (h.ok.i64 hc)) ty
    (by unfold entF S.turn; simp) (fun y hy => by have : y ≠ c := fun e => hy (by rw [e]); unfold entF S.turn; simp [this]) (fun y => keyI_inj)
  exact ⟨w', h1, h.withE h2 h3 ⟨rfl, rfl, rfl, rfl, rfl⟩ (by omega) (h.ok.turn hc (.inl rfl) (by decide) hq), h3⟩

theorem blk_rec {w : World} {k : Nat} {a1 a2 a3 b1 b2 b3 : Value} {t : TypeId} (h : w.heap[k]? = some (.cells #[a1, a2, a3] t (0, 0))) :
    (((w.setCell ⟨k, 0, none⟩ b1).setCell ⟨k, 1, none⟩ b2).setCell ⟨k, 2, none⟩ b3).heap[k]? = some (.cells #[b1, b2, b3] t (0, 0)) := by
  rw [blk_set (blk_set (blk_set h 0 b1) 1 b2) 2 b3]; rfl
set_option maxHeartbeats 1000000 in
theorem turn_any (h : LedAt w b me mq P N s) {c : Int} (hc : s.is c = true) {en : En} (hr : en.r = -1 ∨ s.has en.r = true) (hg : 0 ≤ en.g ∧ en.g ≤ 4294967295) (hq : ∀ x ∈ s.Q c, x.r ≠ en.r) (hN : N < 99999999) :
    Calls Tryd.prog 46 #[.pointer (some ⟨b, 0, none⟩), .int .i64 c, ev en.r en.g] w fun e w' => RecR w' c en e ∧ ∃ N', N' ≤ N + 1 ∧ LedAt w' b me mq P N' (s.turn c en) ∧ Kept (fun k => k = me) w w' := by
  obtain ⟨R, hR⟩ : ∃ R : Ending → World → Prop, R = fun e w' => RecR w' c en e ∧ ∃ N', N' ≤ N + 1 ∧ LedAt w' b me mq P N' (s.turn c en) ∧ Kept (fun k => k = me) w w' := ⟨_, rfl⟩
  have HR : Hid (∀ w' N' A n k, R8 w' (.slice A n k) (recB en) → N' ≤ N + 1 → LedAt w' b me mq P N' (s.turn c en) → Kept (fun k => k = me) w w' → R (.returned (rcv c (.slice A n k))) w') := by
    rw [hR]; exact fun w' N' A n k h1 h2 h3 h4 => ⟨⟨A, n, k, rfl, h1⟩, N', h2, h3, h4⟩
  rw [← hR]
  clear hR
  obtain ⟨r, g⟩ := en
  dsimp only at *
  obtain ⟨o1, ho1⟩ : ∃ o1 : Obj, o1 = .cells #[.int .i64 r, .int .u32 g] 81 := ⟨_, rfl⟩
  obtain ⟨o2, ho2⟩ : ∃ o2 : Obj, o2 = .cells #[.int .i64 0, .int .i64 0, .slice none 0 0] 54 := ⟨_, rfl⟩
  have hbw : Below w.heap.size w ((w.alloc o1).alloc o2) := (alloc_below w _).trans ((alloc_below _ _).mono (by simp))
  have h2 := h.below hbw
  have k1 : ((w.alloc o1).alloc o2).heap[w.heap.size]? = some o1 := heap_up (World.alloc_heap_new w o1)
  have k2 : ((w.alloc o1).alloc o2).heap[w.heap.size + 1]? = some o2 := heap2 _ _ _
  have hme : me < w.heap.size := h.ents.lt
  -- behind the turn of the map
  have HT : Hid (∀ W N', N' ≤ N + 1 → LedAt W b me mq P N' (s.turn c ⟨r, g⟩) → Kept (fun k => k = me) ((w.alloc o1).alloc o2) W →
      W.cell? ⟨w.heap.size, 0, none⟩ = some (.int .i64 r) ∧ W.cell? ⟨w.heap.size, 1, none⟩ = some (.int .u32 g) ∧
      Calls Tryd.prog 52 #[.int .i64 c, ev r g] W fun e W2 => ∃ A n k, e = .returned (rcv c (.slice A n k)) ∧ W2.heap[w.heap.size + 1]? = some (.cells #[.int .i64 0, .int .i64 0, .slice none 0 0] 54 (0, 0)) ∧
        R (.returned (rcv c (.slice A n k))) (((W2.setCell ⟨w.heap.size + 1, 0, none⟩ (.int .i64 3)).setCell ⟨w.heap.size + 1, 1, none⟩ (.int .i64 c)).setCell ⟨w.heap.size + 1, 2, none⟩ (.slice A n k))) := by
    intro W N' hN' hW hk
    have j1 : W.heap[w.heap.size]? = some o1 := (hk.block _ (blk_lt k1) (by omega)).trans k1
    have j2 : W.heap[w.heap.size + 1]? = some o2 := (hk.block _ (blk_lt k2) (by omega)).trans k2
    rw [ho1] at j1
    rw [ho2] at j2
    refine ⟨by rw [blk_cell j1]; rfl, by rw [blk_cell j1]; rfl, ?_⟩
    refine (record_any hW.af c r g hg).mono ?_
    rintro e W2 ⟨⟨A, n, k, rfl, h8⟩, hb⟩
    have j3 : W2.heap[w.heap.size + 1]? = _ := (hb.block _ (blk_lt j2)).trans j2
    have hk3 : Kept (fun k => k = w.heap.size + 1) W2 (((W2.setCell ⟨w.heap.size + 1, 0, none⟩ (.int .i64 3)).setCell ⟨w.heap.size + 1, 1, none⟩ (.int .i64 c)).setCell ⟨w.heap.size + 1, 2, none⟩ (.slice A n k)) :=
      (((Kept.refl (fun k => k = w.heap.size + 1) W2).setCell (p := ⟨w.heap.size + 1, 0, none⟩) (.inl rfl) _).setCell (p := ⟨w.heap.size + 1, 1, none⟩) (.inl rfl) _).setCell (p := ⟨w.heap.size + 1, 2, none⟩) (.inl rfl) _
    refine ⟨A, n, k, rfl, j3, HR.out _ N' A n k ?_ hN' ?_ ?_⟩
    · refine h8.kept hk3 fun i hi e => ?_
      subst e
      exact absurd (hi.eq ⟨_, _, j3⟩) (by decide)
    · refine (hW.below hb).kept hk3 (fun i hi e => ?_) (fun e => ?_)
      · subst e
        rcases (hW.below hb).typ hi ⟨_, _, j3⟩ with e | e <;> exact absurd e (by decide)
      · have := h.af.lt; omega
    · have q1 : Kept (fun k => k = me) w W := ((keptB hbw).mono (fun _ _ h => h.elim)).trans hk (fun _ _ h => h)
      have q2 : Kept (fun k => k = me) w W2 := q1.trans ((keptB hb).mono (Y := fun k => k = me) (fun _ _ h => h.elim)) (fun _ _ h => h)
      exact q2.trans hk3 (fun i hi e => by omega)
  have a0 := h2.af.1
  have a1 := h2.af.2
  have c3 := h2.five.2.2.2.1
  have hlt := h.af.lt
  have d0 : ((w.alloc o1).alloc o2).cell? ⟨w.heap.size, 0, none⟩ = some (.int .i64 r) := by rw [ho1] at k1 ⊢; rw [blk_cell k1]; rfl
  have d1 : ((w.alloc o1).alloc o2).cell? ⟨w.heap.size, 1, none⟩ = some (.int .u32 g) := by rw [ho1] at k1 ⊢; rw [blk_cell k1]; rfl
  have q81 := eqEn
  cases e1 : (r == -1 && g == 0)
  · have hne : (⟨r, g⟩ : En) ≠ e0 := by
      intro e
      have e2 : r = -1 := congrArg En.r e
      have e3 : g = 0 := congrArg En.g e
      rw [e2, e3] at e1
      exact absurd e1 (by decide)
    obtain ⟨W', hrun, hL, hK⟩ := h2.drew.putE hc hne hr hg hq hN
    have hK' : Kept (fun k => k = me) ((w.alloc o1).alloc o2) W' := ⟨hK.os, hK.tape, hK.output, hK.size, hK.block⟩
    obtain ⟨z0, z1, HC⟩ := HT.out W' (N + 1) (by omega) hL hK'
    have HC2 := Lib.hid HC
    have c3' : ((w.alloc o1).alloc o2).drew.cell? ⟨b, 3, none⟩ = _ := c3
    have d0' : ((w.alloc o1).alloc o2).drew.cell? ⟨w.heap.size, 0, none⟩ = _ := d0
    have d1' : ((w.alloc o1).alloc o2).drew.cell? ⟨w.heap.size, 1, none⟩ = _ := d1
    clear h h2 hL hK hK' HC HT HR hbw k1 k2 hq hr hg hc
    rw [ho1, ho2] at *
    go_enter Tryd.func46, Tryd.ntmps46
    go_wp2
    go_region
    go_wp2_with fail
    refine HC2.out.mono ?_
    rintro e W2 ⟨A, n, k, rfl, hb6, hF⟩
    have HF := Lib.hid hF
    have l0 := blk_cell hb6 0
    have l1 := blk_cell hb6 1
    have l2 := blk_cell hb6 2
    have f6 := blk_free hb6
    have hb7 := blk_rec (b1 := .int .i64 3) (b2 := .int .i64 c) (b3 := .slice A n k) hb6
    have g0 := blk_cell hb7 0
    have g1 := blk_cell hb7 1
    have g2 := blk_cell hb7 2
    clear hF hb6 hb7
    simp only [List.getElem?_toArray, List.getElem?_cons_zero, List.getElem?_cons_succ] at l0 l1 l2 g0 g1 g2
    go_wp2
    refine bodyPost_ret (v := rcv c (.slice A n k)) (by simp [results, Tryd.results46, go_sem, g0, g1, g2]) rfl HF.out
  · have he : (⟨r, g⟩ : En) = e0 := by
      simp only [Bool.and_eq_true, beq_iff_eq] at e1
      rw [e1.1, e1.2]; rfl
    have hr1 : r = -1 := congrArg En.r he
    obtain ⟨W', hrun, hL, hK⟩ := h2.delE hc (by rw [← hr1]; exact hq) 0
    rw [← he] at hL
    obtain ⟨z0, z1, HC⟩ := HT.out W' N (by omega) hL hK
    have HC2 := Lib.hid HC
    clear h h2 hL hK HC HT HR hbw k1 k2 hq hr hg hc he hr1
    rw [ho1, ho2] at *
    go_enter Tryd.func46, Tryd.ntmps46
    go_wp2_with fail
    refine HC2.out.mono ?_
    rintro e W2 ⟨A, n, k, rfl, hb6, hF⟩
    have HF := Lib.hid hF
    have l0 := blk_cell hb6 0
    have l1 := blk_cell hb6 1
    have l2 := blk_cell hb6 2
    have f6 := blk_free hb6
    have hb7 := blk_rec (b1 := .int .i64 3) (b2 := .int .i64 c) (b3 := .slice A n k) hb6
    have g0 := blk_cell hb7 0
    have g1 := blk_cell hb7 1
    have g2 := blk_cell hb7 2
    clear hF hb6 hb7
    simp only [List.getElem?_toArray, List.getElem?_cons_zero, List.getElem?_cons_succ] at l0 l1 l2 g0 g1 g2
    go_wp2
    refine bodyPost_ret (v := rcv c (.slice A n k)) (by simp [results, Tryd.results46, go_sem, g0, g1, g2]) rfl HF.out
end
end Go.Proofs.YtlmbbnkdiokabaaDoor
