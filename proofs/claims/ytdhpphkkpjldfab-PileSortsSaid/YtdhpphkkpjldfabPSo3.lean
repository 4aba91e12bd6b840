/-
  The law PileSorts: both piles are popped.
-/
import Derived.Test.YtdhpphkkpjldfabPSo2
namespace Go.Proofs.Ytdhpphkkpjldfab
set_option maxRecDepth 100000
open Go Go.RowKit Pq
open Go.Maps (Keyed IsMap)
open Go.WideElems (Fit rg)

/-- An item's block. -/
def objOf (x : It) : Obj := .cells #[.int .i64 x.c, .int .i64 x.t, .int .i64 x.i] 32

def putAt (w : World) (q : Nat) (x : It) : World := ((w.setCell ⟨q, 0, none⟩ (.int .i64 x.c)).setCell ⟨q, 1, none⟩ (.int .i64 x.t)).setCell ⟨q, 2, none⟩ (.int .i64 x.i)
theorem putAt_obj {w : World} {q : Nat} {y : It} (h : w.heap[q]? = some (objOf y)) (x : It) : (putAt w q x).heap[q]? = some (objOf x) := by
  unfold putAt objOf at *
  simp only [World.setCell, Array.getElem?_modify, if_true, h, Option.map_some]
  rfl
theorem putAt_kept (w : World) (q : Nat) (x : It) : Kept (fun k => k = q) w (putAt w q x) :=
  (((Kept.refl (fun k => k = q) w).setCell (p := ⟨q, 0, none⟩) (.inl rfl) _).setCell (p := ⟨q, 1, none⟩) (.inl rfl) _).setCell (p := ⟨q, 2, none⟩) (.inl rfl) _

/-- i items have been popped of each; q holds the last of them. -/
def So2 (w : World) (b q n i : Nat) (wr : World) : Prop :=
  ∃ ra rb o s last, Sys w.heap.size w [⟨b + 1, 0, rb, s⟩, ⟨b, 0, ra, s⟩] [(q, objOf last), (b + 2, o)] [] wr ∧ TalO o (n + i) (cnt s) ∧ s.length = n - i ∧ Srt s ∧ (0 < i → ∀ y ∈ s, le last y) ∧ (∀ y ∈ s, Wi y) ∧
    w.heap.size ≤ b + 2 ∧ w.heap.size ≤ q ∧ q ≠ b + 2 ∧ n ≤ 200

theorem SoR.done {w wr : World} {b : Nat} {l : List It} (h : SoR w b l.length l wr) (hl : l.length ≤ 200) (hw : ∀ x ∈ l, Wi x) : So2 w b wr.heap.size l.length 0 (wr.alloc (objOf ⟨0, 0, 0⟩)) := by
  obtain ⟨ra, rb, o, hS, hT, hB⟩ := h
  rw [List.take_of_length_le (by simp : l.reverse.length ≤ l.length), List.take_of_length_le (Nat.le_refl _), srt_congr l.reverse_perm] at hS
  rw [List.take_of_length_le (Nat.le_refl _), cnt_perm (srt_perm l).symm] at hT
  have hlt := blk_lt (hS.obj _ (List.mem_singleton.2 rfl)).1
  simp only at hlt
  refine ⟨ra, rb, o, srt l, _, hS.alloc _, hT, by rw [srt_length]; rfl, srt_srt l, by omega, fun y hy => hw y ((srt_perm l).mem_iff.1 hy), hB, hS.le, by omega, hl⟩

/-- Both have been popped, and what came lies in blocks of its own. -/
def So4 (w : World) (b q n i : Nat) (x : It) (s : List It) (last : It) (p p' : Nat) (wr : World) : Prop :=
  ∃ ra rb o, Sys w.heap.size w [⟨b + 1, 0, rb, s⟩, ⟨b, 0, ra, s⟩] [(p', objOf x), (p, objOf x), (q, objOf last), (b + 2, o)] [] wr ∧ TalO o (n + i) (cnt (x :: s)) ∧ s.length + 1 = n - i ∧ Srt (x :: s) ∧ (0 < i → le last x) ∧ (∀ y ∈ x :: s, Wi y) ∧
    w.heap.size ≤ b + 2 ∧ w.heap.size ≤ q ∧ q ≠ b + 2 ∧ n ≤ 200 ∧ b + 2 < p ∧ q < p

theorem So4.later {w wr w' : World} {b q n i p p' C : Nat} {x last : It} {s : List It} (h : So4 w b q n i x s last p p' wr) (hb : Below C wr w') (hC : wr.heap.size ≤ C) : So4 w b q n i x s last p p' w' := by
  obtain ⟨ra, rb, o, hS, hr⟩ := h
  exact ⟨ra, rb, o, hS.later hb hC, hr⟩
theorem So4.lies {w wr : World} {b q n i p p' : Nat} {x last : It} {s : List It} (h : So4 w b q n i x s last p p' wr) : wr.heap[p]? = some (objOf x) ∧ wr.heap[p']? = some (objOf x) ∧ wr.heap[q]? = some (objOf last) := by
  obtain ⟨ra, rb, o, hS, hr⟩ := h
  exact ⟨(hS.obj (p, objOf x) (by simp)).1, (hS.obj (p', objOf x) (by simp)).1, (hS.obj (q, objOf last) (by simp)).1⟩

/-- The tally's step. -/
theorem So4.tally {w wr : World} {b q n i p p' : Nat} {x last : It} {s : List It} (h : So4 w b q n i x s last p p' wr) (hi : i < n) :
    ∃ (c : Int) (v0 : Value) (st : Int) (w5 w6 : World), 0 ≤ c ∧ c ≤ 200 ∧
      (Instr.lookup 50 (.map (some (b + 2))) (.agg #[.int .i64 x.c, .int .i64 x.t, .int .i64 x.i]) false).run Try.prog wr.drew = .ok (.int .i64 c) wr.drew ∧
      (Instr.mapEntry 50 (.map (some (b + 2))) (.agg #[.int .i64 x.c, .int .i64 x.t, .int .i64 x.i])).run Try.prog wr.drew = .ok (.tuple #[v0, .int .i64 st]) w5 ∧
      (Instr.lookup 50 (.map (some (b + 2))) (.agg #[.int .i64 x.c, .int .i64 x.t, .int .i64 x.i]) false).run Try.prog w5 = .ok (.int .i64 c) w5 ∧
      (Instr.entryStore 50 (.map (some (b + 2))) (.int .i64 st) (.int .i64 (c - 1))).run Try.prog w5 = .ok () w6 ∧
      w6.heap[p]? = some (objOf x) ∧ w6.heap[q]? = some (objOf last) ∧ So2 w b q n (i + 1) (putAt w6 q x) := by
  obtain ⟨ra, rb, o, hS, hT, hl, hs, hla, hw, hB, hq, hne, hn, hp1, hp2⟩ := h
  have hSd := hS.drew
  have hc := cnt_bounds (x :: s) (keyL x)
  have hln : (x :: s).length ≤ 200 := by simp; omega
  have hc0 : 1 ≤ cnt (x :: s) (keyL x) := by rw [← cnt_cons, cset_same]; have := (cnt_bounds s (keyL x)).1; omega
  have hd : (Lit.int .i64 (cnt (x :: s) (keyL x) - 1)).wf = true := WalkArith.wf_i64 (by omega)
  have m0 : (b + 2, o) ∈ [(p', objOf x), (p, objOf x), (q, objOf last), (b + 2, o)] := by simp
  obtain ⟨v0, st, w5, w6, e1, e2, e3, e4, h6, h7⟩ := (hT.tal (hSd.obj _ m0).1).bump (by omega) (hw _ (List.mem_cons_self ..)) hd
  refine ⟨_, v0, st, w5, w6, hc.1, by omega, e1, e2, e3, e4, ?_⟩
  obtain ⟨o', ho', hT'⟩ := h6.obj
  rw [cnt_tail] at hT'
  have hnp := (hSd.obj _ m0).2
  have hS6 := (hSd.turn h7 hB hnp (os' := [(p, objOf x), (q, objOf last)]) (fun y hy => by
    simp at hy
    rcases hy with rfl | rfl
    · exact ⟨by simp, by simp; omega⟩
    · exact ⟨by simp, hne⟩)).know ho' hnp
  have f1 := (hS6.obj (p, objOf x) (by simp)).1
  have f2 := hS6.obj (q, objOf last) (by simp)
  have hS7 := (hS6.turn (putAt_kept w6 q x) hq f2.2 (os' := [(b + 2, o')]) (fun y hy => by
    simp at hy
    subst hy
    exact ⟨by simp, fun e => hne e.symm⟩)).know (putAt_obj f2.1 x) f2.2
  exact ⟨f1, f2.1, ra, rb, o', s, x, hS7, by rw [Nat.add_assoc] at hT'; exact hT', by omega, (List.pairwise_cons.1 hs).2, fun _ => (List.pairwise_cons.1 hs).1, fun y hy => hw y (List.mem_cons_of_mem _ hy), hB, hq, hne, hn⟩

theorem cells_of {w : World} {q : Nat} {x : It} (h : w.heap[q]? = some (objOf x)) :
    w.cell? ⟨q, 0, none⟩ = some (.int .i64 x.c) ∧ w.cell? ⟨q, 1, none⟩ = some (.int .i64 x.t) ∧ w.cell? ⟨q, 2, none⟩ = some (.int .i64 x.i) ∧ (∀ j, w.frozen? ⟨q, j, none⟩ = false) :=
  ⟨(blk_cell h 0).trans rfl, (blk_cell h 1).trans rfl, (blk_cell h 2).trans rfl, fun j => blk_free h j⟩

/-- The range over the tally: none is left of any. -/
structure Rest (w : World) (b : Nat) (wr : World) : Prop where
  sys : ∃ ra rb, Sys w.heap.size w [⟨b + 1, 0, rb, []⟩, ⟨b, 0, ra, []⟩] [] [] wr
  own : ∃ (D : DataW Unit) (N : Nat), wr.ownsMap Try.prog 32 (plainElem Try.prog 3) (b + 2) N D ∧ ∀ k, D.atKey k (.lit (.int .i64 0)) = .lit (.int .i64 0)
theorem So2.done {w wr : World} {b q n : Nat} (h : So2 w b q n n wr) : Rest w b wr := by
  obtain ⟨ra, rb, o, s, last, hS, hT, hl, _⟩ := h
  obtain rfl : s = [] := List.eq_nil_of_length_eq_zero (by omega)
  obtain ⟨D, hO, _, hk⟩ := hT.tal (hS.obj (b + 2, o) (by simp)).1
  exact ⟨⟨ra, rb, hS.less (os' := []) (rs' := []) (fun _ h => by cases h) (fun _ h => by cases h)⟩, D, _, hO, hk⟩
end Go.Proofs.Ytdhpphkkpjldfab
