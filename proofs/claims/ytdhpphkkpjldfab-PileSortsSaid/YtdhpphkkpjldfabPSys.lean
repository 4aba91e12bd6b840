/-
  Several piles, objects and lists in memory, from call to call.
-/
import Derived.Test.YtdhpphkkpjldfabPL2
import Derived.Test.YtdhpphkkpjldfabPArg
namespace Go.Proofs.Ytdhpphkkpjldfab
set_option maxRecDepth 100000
open Go Go.RowKit Pq

/-- A pile: its block, its place there, its row's block, what it holds. -/
structure Pl where
  b : Nat
  j : Nat
  r : Option Nat
  s : List It

def Apart (p q : Pl) : Prop := (p.b ≠ q.b ∨ p.j ≠ q.j) ∧ ∀ g, some g = p.r → g ≠ q.b ∧ some g ≠ q.r

theorem PileS.keptp {w w' : World} {p q : Pl} (h : PileS w q.b q.j q.r q.s) (hk : Kp p.b p.j p.r w w') (h1 : Apart p q) (h2 : Apart q p) : PileS w' q.b q.j q.r q.s := by
  obtain ⟨l, ⟨v, hc, hf, hr, hn, ho⟩, hrest⟩ := h
  have hqb : q.b < w.heap.size := World.block_lt_of_cell? w _ hc
  have hnr : some q.b ≠ p.r := fun e => (h1.2 q.b e).1 rfl
  refine ⟨l, ⟨v, ?_, ?_, hr, hn, hk.kept.row ho ?_⟩, hrest⟩
  · by_cases e : q.b = p.b
    · rw [e] at hc ⊢
      have hj : q.j ≠ p.j := by
        rcases h1.1 with h | h
        · exact absurd e.symm h
        · exact fun e => h e.symm
      rw [hk.side _ hj]; exact hc
    · exact hk.kept.cell hc (by rintro (h | h); exact e h; exact hnr h)
  · by_cases e : q.b = p.b
    · rw [e] at hf ⊢
      rw [hk.froz]; exact hf
    · rw [hk.kept.frozen (p := ⟨q.b, q.j, none⟩) hqb (by rintro (h | h); exact e h; exact hnr h)]; exact hf
  · intro g hg
    have hg' : some g = q.r := by rw [← hr, hg]
    rintro (h | h)
    · exact (h2.2 g hg').1 h
    · exact (h2.2 g hg').2 h

structure Sys (B : Nat) (W0 : World) (ps : List Pl) (os : List (Nat × Obj)) (rs : List (Value × List It)) (W : World) : Prop where
  below : Below B W0 W
  size : B ≤ W0.heap.size
  pile : ∀ (i : Nat) (p : Pl), ps[i]? = some p → PileS W p.b p.j p.r p.s ∧ B ≤ p.b ∧ ∀ g, some g = p.r → B ≤ g
  apart : ∀ (i k : Nat) (p q : Pl), i ≠ k → ps[i]? = some p → ps[k]? = some q → Apart p q
  obj : ∀ o ∈ os, W.heap[o.1]? = some o.2 ∧ ∀ (i : Nat) (p : Pl), ps[i]? = some p → ¬ Of p.b p.r o.1
  row : ∀ v ∈ rs, W.ownsRow B 32 3 v.1 v.2.length (csL v.2) ∧ ∀ (i : Nat) (p : Pl), ps[i]? = some p → ∀ g, v.1.ownBlock = some g → ¬ Of p.b p.r g

namespace Sys
variable {B : Nat} {W0 W W' : World} {ps : List Pl} {os : List (Nat × Obj)} {rs : List (Value × List It)}

theorem le (h : Sys B W0 ps os rs W) : B ≤ W.heap.size := Nat.le_trans h.size h.below.size

/-- Nothing of what there was turns. -/
theorem grow (h : Sys B W0 ps os rs W) (hk : Kept (fun _ => False) W W') : Sys B W0 ps os rs W' :=
  ⟨h.below.trans (hk.below (fun _ h => h.elim) h.le), h.size, fun i p hp => ⟨(h.pile i p hp).1.kept hk (fun _ _ => id), (h.pile i p hp).2⟩, h.apart,
    fun o ho => ⟨(hk.block _ (blk_lt (h.obj o ho).1) id).trans (h.obj o ho).1, (h.obj o ho).2⟩, fun v hv => ⟨hk.row (h.row v hv).1 (fun _ _ => id), (h.row v hv).2⟩⟩
theorem drewN (h : Sys B W0 ps os rs W) (n : Nat) : Sys B W0 ps os rs (W.drewN n) := h.grow ((Kept.refl _ W).drewN n)
theorem drew (h : Sys B W0 ps os rs W) : Sys B W0 ps os rs W.drew := h.grow (Kept.refl _ W).drew
theorem later {C : Nat} (h : Sys B W0 ps os rs W) (hb : Below C W W') (hC : W.heap.size ≤ C) : Sys B W0 ps os rs W' := h.grow (Kept.of_below hb hC)
theorem alloc0 (h : Sys B W0 ps os rs W) (o : Obj) : Sys B W0 ps os rs (W.alloc o) := h.grow ((Kept.refl _ W).alloc o)
/-- A new object. -/
theorem alloc (h : Sys B W0 ps os rs W) (o : Obj) : Sys B W0 ps ((W.heap.size, o) :: os) rs (W.alloc o) := by
  have h' := h.alloc0 o
  refine ⟨h'.below, h'.size, h'.pile, h'.apart, fun x hx => ?_, h'.row⟩
  rcases List.mem_cons.1 hx with rfl | hx
  · exact ⟨heap_alloc_new W o, fun i p hp hof => by have := (h.pile i p hp).1.lt _ hof; simp at this⟩
  · exact h'.obj x hx

theorem set_get {i k : Nat} {p' q : Pl} (h : (ps.set i p')[k]? = some q) : (k = i ∧ q = p') ∨ (k ≠ i ∧ ps[k]? = some q) := by
  rw [List.getElem?_set] at h
  by_cases e : i = k
  · subst e
    simp at h
    exact .inl ⟨rfl, h.2.symm⟩
  · rw [if_neg e] at h
    exact .inr ⟨fun e' => e e'.symm, h⟩

/-- One pile turns. -/
theorem step (h : Sys B W0 ps os rs W) {i : Nat} {p : Pl} (hp : ps[i]? = some p) {r' : Option Nat} {s' : List It} (hk : Kp p.b p.j p.r W W') (hP : PileS W' p.b p.j r' s') (hr : Newer W p.r r') :
    Sys B W0 (ps.set i ⟨p.b, p.j, r', s'⟩) os rs W' := by
  obtain ⟨hp1, hp2, hp3⟩ := h.pile i p hp
  have hl := h.le
  have hnew : ∀ k, Of p.b r' k → Of p.b p.r k ∨ W.heap.size ≤ k := by
    rintro k (e | e)
    · exact .inl (.inl e)
    · exact (hr k e).imp .inr id
  refine ⟨h.below.trans (hk.kept.below ?_ hl), h.size, ?_, ?_, ?_, ?_⟩
  · rintro k (e | e)
    · rw [e]; exact hp2
    · exact hp3 k e
  · intro k q hq
    rcases set_get hq with ⟨rfl, rfl⟩ | ⟨hne, hq⟩
    · refine ⟨hP, hp2, fun g hg => ?_⟩
      rcases hr g hg with h1 | h1
      · exact hp3 g h1
      · omega
    · obtain ⟨h1, h2, h3⟩ := h.pile k q hq
      exact ⟨h1.keptp hk (h.apart i k p q (fun e => hne e.symm) hp hq) (h.apart k i q p hne hq hp), h2, h3⟩
  · intro a c q1 q2 hac h1 h2
    rcases set_get h1 with ⟨rfl, rfl⟩ | ⟨_, h1'⟩
    · rcases set_get h2 with ⟨rfl, rfl⟩ | ⟨_, h2'⟩
      · exact absurd rfl hac
      · obtain ⟨ha, hb⟩ := h.apart a c p q2 hac hp h2'
        refine ⟨ha, fun g hg => ?_⟩
        rcases hr g hg with h3 | h3
        · exact hb g h3
        · refine ⟨fun e => ?_, fun e => ?_⟩
          · have := (h.pile c q2 h2').1.lt q2.b (.inl rfl); omega
          · have := (h.pile c q2 h2').1.lt g (.inr e); omega
    · rcases set_get h2 with ⟨rfl, rfl⟩ | ⟨_, h2'⟩
      · obtain ⟨ha, hb⟩ := h.apart a c q1 p hac h1' hp
        refine ⟨ha, fun g hg => ⟨(hb g hg).1, fun e => ?_⟩⟩
        rcases hr g e with h3 | h3
        · exact (hb g hg).2 h3
        · have := (h.pile a q1 h1').1.lt g (.inr hg); omega
      · exact h.apart a c q1 q2 hac h1' h2'
  · intro o ho
    obtain ⟨h1, h2⟩ := h.obj o ho
    refine ⟨(hk.kept.block _ (blk_lt h1) (h2 i p hp)).trans h1, fun k q hq => ?_⟩
    rcases set_get hq with ⟨rfl, rfl⟩ | ⟨hne, hq⟩
    · intro hof
      rcases hnew _ hof with h3 | h3
      · exact h2 k p hp h3
      · have := blk_lt h1; omega
    · exact h2 k q hq
  · intro v hv
    obtain ⟨h1, h2⟩ := h.row v hv
    refine ⟨hk.kept.row h1 (h2 i p hp), fun k q hq g hg => ?_⟩
    rcases set_get hq with ⟨rfl, rfl⟩ | ⟨hne, hq⟩
    · intro hof
      rcases hnew _ hof with h3 | h3
      · exact h2 k p hp g hg h3
      · have := (h1.lt g hg).2; omega
    · exact h2 k q hq g hg

/-- A new list. -/
theorem addRow (h : Sys B W0 ps os rs W) {v : Value} {l : List It} {C : Nat} (ho : W.ownsRow C 32 3 v l.length (csL l)) (hB : B ≤ C) (hC : ∀ (i : Nat) (p : Pl), ps[i]? = some p → ∀ k, Of p.b p.r k → k < C) : Sys B W0 ps os ((v, l) :: rs) W := by
  refine ⟨h.below, h.size, h.pile, h.apart, h.obj, fun x hx => ?_⟩
  rcases List.mem_cons.1 hx with rfl | hx
  · exact ⟨row_base ho hB, fun i p hp g hg hof => by have := hC i p hp g hof; have := (ho.lt g hg).1; omega⟩
  · exact h.row x hx

theorem push (h : Sys B W0 ps os rs W) {i : Nat} {p : Pl} (hp : ps[i]? = some p) {x : It} {e : Ending} (hq : PushS W p.b p.j p.r p.s x e W') : ∃ r', Sys B W0 (ps.set i ⟨p.b, p.j, r', ins x p.s⟩) os rs W' := by
  obtain ⟨_, r', h1, h2, h3⟩ := hq
  exact ⟨r', h.step hp h2 h1 h3⟩
theorem pop (h : Sys B W0 ps os rs W) {i : Nat} {p : Pl} (hp : ps[i]? = some p) {x : It} {s : List It} {e : Ending} (hq : PopS W p.b p.j p.r x s e W') : Sys B W0 (ps.set i ⟨p.b, p.j, p.r, s⟩) os rs W' := by
  obtain ⟨_, h1, h2⟩ := hq
  exact h.step hp h2 h1 (fun k e => .inl e)
theorem least (h : Sys B W0 ps os rs W) {i : Nat} {p : Pl} (hp : ps[i]? = some p) {m : Nat} {e : Ending} (hq : LeastPost W p.b p.j p.r p.s m e W') :
    ∃ v, e = .returned v ∧ Sys B W0 (ps.set i ⟨p.b, p.j, p.r, p.s.drop m⟩) os ((v, p.s.take m) :: rs) W' := by
  obtain ⟨v, he, h1, h2, h3⟩ := hq
  refine ⟨v, he, (h.step hp h3 h2 (fun k e => .inl e)).addRow h1 h.le ?_⟩
  intro k q hq g hof
  rcases set_get hq with ⟨rfl, rfl⟩ | ⟨hne, hq⟩
  · exact (h.pile k p hp).1.lt g hof
  · exact (h.pile k q hq).1.lt g hof
theorem all (h : Sys B W0 ps os rs W) {i : Nat} {p : Pl} (_ : ps[i]? = some p) {e : Ending} (hq : AllPost W p.s e W') : ∃ v, e = .returned v ∧ Sys B W0 ps os ((v, p.s) :: rs) W' := by
  obtain ⟨v, he, h1, h2⟩ := hq
  exact ⟨v, he, (h.later h2 (Nat.le_refl _)).addRow h1 h.le (fun k q hq g hof => (h.pile k q hq).1.lt g hof)⟩

/-- Some of the objects and lists. -/
theorem less (h : Sys B W0 ps os rs W) {os' : List (Nat × Obj)} {rs' : List (Value × List It)} (ho : ∀ o ∈ os', o ∈ os) (hr : ∀ v ∈ rs', v ∈ rs) : Sys B W0 ps os' rs' W :=
  ⟨h.below, h.size, h.pile, h.apart, fun o hx => h.obj o (ho o hx), fun v hv => h.row v (hr v hv)⟩

theorem start {W : World} (hB : B ≤ W0.heap.size) (hb : Below B W0 W) : Sys B W0 [] [] [] W :=
  ⟨hb, hB, fun i p hp => by simp at hp, fun i k p q _ hp => by simp at hp, fun o ho => by simp at ho, fun v hv => by simp at hv⟩
/-- A new empty pile in a new block. -/
theorem newPile (h : Sys B W0 ps os rs W) (t : TypeId) : Sys B W0 (⟨W.heap.size, 0, none, []⟩ :: ps) os rs (W.alloc (.cells #[.slice none 0 0] t)) := by
  have h' := h.alloc0 (.cells #[.slice none 0 0] t)
  have hP : PileS (W.alloc (.cells #[.slice none 0 0] t)) W.heap.size 0 none [] := PileS.empty (by rw [blk_cell (heap_alloc_new W _)]; rfl) (blk_free (heap_alloc_new W _) 0)
  have hlt : ∀ (k : Nat) (q : Pl), ps[k]? = some q → ∀ g, Of q.b q.r g → g < W.heap.size := fun k q hq => (h.pile k q hq).1.lt
  refine ⟨h'.below, h'.size, ?_, ?_, ?_, ?_⟩
  · intro i p hp
    cases i with
    | zero => simp at hp; subst hp; exact ⟨hP, h.le, fun g e => by cases e⟩
    | succ i => exact h'.pile i p (by simpa using hp)
  · intro i k p q hik hp hq
    cases i with
    | zero =>
      cases k with
      | zero => exact absurd rfl hik
      | succ k =>
        simp at hp; subst hp
        exact ⟨.inl (fun e => by have := hlt k q (by simpa using hq) q.b (.inl rfl); simp at e; omega), fun g e => by cases e⟩
    | succ i =>
      cases k with
      | zero =>
        simp at hq; subst hq
        have h1 := hlt i p (by simpa using hp)
        exact ⟨.inl (fun e => by have := h1 p.b (.inl rfl); simp at e; omega), fun g e => ⟨fun e' => by have := h1 g (.inr e); simp at e'; omega, fun e' => by cases e'⟩⟩
      | succ k => exact h'.apart i k p q (by omega) (by simpa using hp) (by simpa using hq)
  · intro o ho
    refine ⟨(h'.obj o ho).1, fun i p hp => ?_⟩
    cases i with
    | zero =>
      simp at hp; subst hp
      rintro (e | e)
      · have := blk_lt (h.obj o ho).1; simp at e; omega
      · cases e
    | succ i => exact (h'.obj o ho).2 i p (by simpa using hp)
  · intro v hv
    refine ⟨(h'.row v hv).1, fun i p hp g hg => ?_⟩
    cases i with
    | zero =>
      simp at hp; subst hp
      rintro (e | e)
      · have := ((h.row v hv).1.lt g hg).2; simp at e; omega
      · cases e
    | succ i => exact (h'.row v hv).2 i p (by simpa using hp) g hg
/-- A row's cells. -/
theorem cells (h : Sys B W0 ps os rs W) {v : Value} {l : List It} (hv : (v, l) ∈ rs) : ∃ A cap, v = .slice A l.length cap ∧ ∀ k, k < l.length → ∃ g, A = some ⟨g, 0, none⟩ ∧ W.cell? ⟨g, k * 3, none⟩ = some (.int .i64 (at_ l k).c) ∧ W.cell? ⟨g, k * 3 + 1, none⟩ = some (.int .i64 (at_ l k).t) ∧ W.cell? ⟨g, k * 3 + 2, none⟩ = some (.int .i64 (at_ l k).i) := by
  have ho := (h.row _ hv).1
  rcases ho.2 with ⟨e, h0⟩ | ⟨g, cap, cur, e, _⟩
  · simp only at e h0
    exact ⟨none, 0, by rw [e, h0], fun k hk => by omega⟩
  · simp only at e
    subst e
    exact ⟨_, _, rfl, fun k hk => ⟨g, rfl, row_cells ho hk⟩⟩
end Sys
end Go.Proofs.Ytdhpphkkpjldfab
