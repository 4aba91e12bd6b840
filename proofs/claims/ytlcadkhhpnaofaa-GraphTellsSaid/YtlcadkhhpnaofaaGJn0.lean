/-
  Three graphs beside one another: what Add makes of two of them; who is reached in them.
-/
import Derived.Test.YtlcadkhhpnaofaaGAd0
import Derived.Test.YtlcadkhhpnaofaaGKos2
import Derived.Test.YtlcadkhhpnaofaaGTar2
namespace Go.Proofs.Ytlcadkhhpnaofaa
set_option maxRecDepth 100000
open Go Go.RowKit Gq

/-- An edge more, of a graph in memory. -/
theorem addM_any {w : World} {b : Nat} {R : Gr} {S : Nat → Prop} (h : GAt w b R S) (hO : Ok R) {a c : Nat} (ha : a < R.length) (hc : c < R.length) (hac : a ≠ c) :
    Calls Try.prog 8 #[.pointer (some ⟨b, 0, none⟩), .int .i64 (a : Int), .int .i64 (c : Int)] w fun e w' => (∃ z : Int, e = .returned (.int .i64 z)) ∧
      ∃ R' S', GAt w' b R' S' ∧ Ok R' ∧ R'.length = R.length ∧ (∀ i x, x ∈ row R' i ↔ x ∈ row R i ∨ (i = a ∧ x = c)) ∧ (∀ k, S' k → S k ∨ w.heap.size ≤ k) ∧ Kept S w w' := by
  refine (add_any h hO (a := a) (x := c) ha hc hac).mono ?_
  rintro e w' ⟨rfl, S', h1, h2, h3⟩
  refine ⟨⟨0, rfl⟩, addE R a c, S', h1, addE_ok hO ha hc hac, addE_length .., fun i x => ?_, h2, h3⟩
  rw [row_addE ha]
  by_cases e : i = a
  · subst e
    rw [if_pos rfl, mem_insN]
    exact ⟨fun h => h.elim (fun h => .inr ⟨rfl, h⟩) .inl, fun h => h.elim .inr (fun h => .inl h.2)⟩
  · rw [if_neg e]
    exact ⟨.inl, fun h => h.elim id (fun h => absurd h.1 e)⟩

/-- A graph, two that grow beside it, and blocks that stay. -/
structure JnI (w : World) (b bw bl : Nat) (R : Gr) (PW PL : Nat → Nat → Prop) (K : Nat → Prop) (wr : World) : Prop where
  ex : ∃ W L S Sw Sl, GAt wr b R S ∧ GAt wr bw W Sw ∧ GAt wr bl L Sl ∧ Ok W ∧ Ok L ∧ W.length = R.length ∧ L.length = R.length ∧ (∀ u v, v ∈ row W u ↔ PW u v) ∧ (∀ u v, v ∈ row L u ↔ PL u v) ∧
    (∀ k, S k → ¬ Sw k ∧ ¬ Sl k) ∧ (∀ k, Sw k → ¬ Sl k) ∧ (∀ k, S k ∨ Sw k ∨ Sl k → w.heap.size ≤ k) ∧ (∀ k, K k → k < wr.heap.size ∧ ¬ Sw k ∧ ¬ Sl k)
  lo : Below w.heap.size w wr

section
variable {w wr wr' : World} {b bw bl : Nat} {R : Gr} {PW PL PW' PL' : Nat → Nat → Prop} {K K' : Nat → Prop}

theorem JnI.congr (h : JnI w b bw bl R PW PL K wr) (hW : ∀ u v, PW u v ↔ PW' u v) (hL : ∀ u v, PL u v ↔ PL' u v) (hK : ∀ k, K' k → K k) : JnI w b bw bl R PW' PL' K' wr := by
  obtain ⟨⟨W, L, S, Sw, Sl, h1, h2, h3, h4, h5, h6, h7, h8, h9, h10, h11, h12, h13⟩, hlo⟩ := h
  exact ⟨⟨W, L, S, Sw, Sl, h1, h2, h3, h4, h5, h6, h7, fun u v => (h8 u v).trans (hW u v), fun u v => (h9 u v).trans (hL u v), h10, h11, h12, fun k hk => h13 k (hK k hk)⟩, hlo⟩
theorem JnI.still (h : JnI w b bw bl R PW PL K wr) (hs : Still wr wr') : JnI w b bw bl R PW PL K wr' := by
  obtain ⟨⟨W, L, S, Sw, Sl, h1, h2, h3, h4, h5, h6, h7, h8, h9, h10, h11, h12, h13⟩, hlo⟩ := h
  exact ⟨⟨W, L, S, Sw, Sl, h1.still hs, h2.still hs, h3.still hs, h4, h5, h6, h7, h8, h9, h10, h11, h12, fun k hk => ⟨Nat.lt_of_lt_of_le (h13 k hk).1 hs.size, (h13 k hk).2⟩⟩, hlo.trans (hs.below (fun _ h => h.elim) hlo.size)⟩
theorem JnI.below (h : JnI w b bw bl R PW PL K wr) (hb : Below wr.heap.size wr wr') : JnI w b bw bl R PW PL K wr' := h.still (Kept.of_below hb (Nat.le_refl _))
/-- Blocks that are new stay, too. -/
theorem JnI.keep (h : JnI w b bw bl R PW PL K wr) (hb : Below wr.heap.size wr wr') (hK : ∀ k, K' k → wr.heap.size ≤ k ∧ k < wr'.heap.size) : JnI w b bw bl R PW PL K' wr' := by
  obtain ⟨⟨W, L, S, Sw, Sl, h1, h2, h3, h4, h5, h6, h7, h8, h9, h10, h11, h12, h13⟩, hlo⟩ := h
  refine ⟨⟨W, L, S, Sw, Sl, h1.below hb (Nat.le_refl _), h2.below hb (Nat.le_refl _), h3.below hb (Nat.le_refl _), h4, h5, h6, h7, h8, h9, h10, h11, h12, fun k hk => ⟨(hK k hk).2, fun hs => ?_, fun hs => ?_⟩⟩, hlo.trans (hb.mono hlo.size)⟩
  · have := h2.lt k hs; have := (hK k hk).1; omega
  · have := h3.lt k hs; have := (hK k hk).1; omega

theorem JnI.addW (h : JnI w b bw bl R PW PL K wr) {a c : Nat} (ha : a < R.length) (hc : c < R.length) (hac : a ≠ c) :
    Calls Try.prog 8 #[.pointer (some ⟨bw, 0, none⟩), .int .i64 (a : Int), .int .i64 (c : Int)] wr fun e w' => (∃ z : Int, e = .returned (.int .i64 z)) ∧
      JnI w b bw bl R (fun u v => PW u v ∨ (u = a ∧ v = c)) PL K w' ∧ ∀ k, K k → w'.heap[k]? = wr.heap[k]? := by
  obtain ⟨⟨W, L, S, Sw, Sl, h1, h2, h3, h4, h5, h6, h7, h8, h9, h10, h11, h12, h13⟩, hlo⟩ := h
  refine (addM_any h2 h4 (a := a) (c := c) (by omega) (by omega) hac).mono ?_
  rintro e w' ⟨he, W', Sw', g1, g2, g3, g4, g5, g6⟩
  have hlw := h2.lt
  have hl1 := h1.lt
  have hl3 := h3.lt
  refine ⟨he, ⟨⟨W', L, S, Sw', Sl, h1.kept g6 (fun k hk => (h10 k hk).1), g1, h3.kept g6 (fun k hk hs => h11 k hs hk), g2, h5, g3.trans h6, h7, fun u v => (g4 u v).trans (by rw [h8]), h9, ?_, ?_, ?_, ?_⟩, hlo.trans (g6.below (fun k hk => h12 k (.inr (.inl hk))) hlo.size)⟩, fun k hk => g6.block k (h13 k hk).1 (h13 k hk).2.1⟩
  · exact fun k hk => ⟨fun hs => (g5 k hs).elim (h10 k hk).1 (fun h => by have := hl1 k hk; omega), (h10 k hk).2⟩
  · exact fun k hk hs => (g5 k hk).elim (fun h => h11 k h hs) (fun h => by have := hl3 k hs; omega)
  · rintro k (hk | hk | hk)
    · exact h12 k (.inl hk)
    · rcases g5 k hk with h | h
      · exact h12 k (.inr (.inl h))
      · exact Nat.le_trans hlo.size h
    · exact h12 k (.inr (.inr hk))
  · exact fun k hk => ⟨Nat.lt_of_lt_of_le (h13 k hk).1 g6.size, fun hs => (g5 k hs).elim (h13 k hk).2.1 (fun h => by have := (h13 k hk).1; omega), (h13 k hk).2.2⟩

theorem JnI.addL (h : JnI w b bw bl R PW PL K wr) {a c : Nat} (ha : a < R.length) (hc : c < R.length) (hac : a ≠ c) :
    Calls Try.prog 8 #[.pointer (some ⟨bl, 0, none⟩), .int .i64 (a : Int), .int .i64 (c : Int)] wr fun e w' => (∃ z : Int, e = .returned (.int .i64 z)) ∧
      JnI w b bw bl R PW (fun u v => PL u v ∨ (u = a ∧ v = c)) K w' ∧ ∀ k, K k → w'.heap[k]? = wr.heap[k]? := by
  obtain ⟨⟨W, L, S, Sw, Sl, h1, h2, h3, h4, h5, h6, h7, h8, h9, h10, h11, h12, h13⟩, hlo⟩ := h
  refine (addM_any h3 h5 (a := a) (c := c) (by omega) (by omega) hac).mono ?_
  rintro e w' ⟨he, L', Sl', g1, g2, g3, g4, g5, g6⟩
  have hlw := h2.lt
  have hl1 := h1.lt
  refine ⟨he, ⟨⟨W, L', S, Sw, Sl', h1.kept g6 (fun k hk => (h10 k hk).2), h2.kept g6 (fun k hk => h11 k hk), g1, h4, g2, h6, g3.trans h7, h8, fun u v => (g4 u v).trans (by rw [h9]), ?_, ?_, ?_, ?_⟩, hlo.trans (g6.below (fun k hk => h12 k (.inr (.inr hk))) hlo.size)⟩, fun k hk => g6.block k (h13 k hk).1 (h13 k hk).2.2⟩
  · exact fun k hk => ⟨(h10 k hk).1, fun hs => (g5 k hs).elim (h10 k hk).2 (fun h => by have := hl1 k hk; omega)⟩
  · exact fun k hk hs => (g5 k hs).elim (fun h => h11 k hk h) (fun h => by have := hlw k hk; omega)
  · rintro k (hk | hk | hk)
    · exact h12 k (.inl hk)
    · exact h12 k (.inr (.inl hk))
    · rcases g5 k hk with h | h
      · exact h12 k (.inr (.inr h))
      · exact Nat.le_trans hlo.size h
  · exact fun k hk => ⟨Nat.lt_of_lt_of_le (h13 k hk).1 g6.size, (h13 k hk).2.1, fun hs => (g5 k hs).elim (h13 k hk).2.2 (fun h => by have := (h13 k hk).1; omega)⟩
end

/-- Edges of the rows ahead of x, and of the first j of row x. -/
def Ea (R : Gr) (x j : Nat) (a c : Nat) : Prop := c ∈ row R a ∧ (a < x ∨ (a = x ∧ c ∈ (row R x).take j))
def Eb (R : Gr) (x j : Nat) (u v : Nat) : Prop := Ea R x j u v ∨ Ea R x j v u
def El (R : Gr) (at_ x j : Nat) (u v : Nat) : Prop := Eb R x j u v ∧ u ≠ at_ ∧ v ≠ at_

theorem Ea_zero (R : Gr) (u v : Nat) : ¬ Ea R 0 0 u v := by rintro ⟨_, h | ⟨_, h⟩⟩ <;> simp at h
theorem Ea_step {R : Gr} {x j : Nat} (hj : j < (row R x).length) (u v : Nat) : Ea R x (j + 1) u v ↔ Ea R x j u v ∨ (u = x ∧ v = (row R x).getD j 0) := by
  have e : (row R x).getD j 0 = (row R x)[j] := by simp [List.getD, hj]
  rw [e]
  unfold Ea
  rw [List.take_succ_eq_append_getElem hj]
  simp only [List.mem_append, List.mem_singleton]
  constructor
  · rintro ⟨h1, h2 | ⟨h2, h3 | h3⟩⟩
    · exact .inl ⟨h1, .inl h2⟩
    · exact .inl ⟨h1, .inr ⟨h2, h3⟩⟩
    · exact .inr ⟨h2, h3⟩
  · rintro (⟨h1, h2 | ⟨h2, h3⟩⟩ | ⟨rfl, rfl⟩)
    · exact ⟨h1, .inl h2⟩
    · exact ⟨h1, .inr ⟨h2, .inl h3⟩⟩
    · exact ⟨List.getElem_mem hj, .inr ⟨rfl, .inr rfl⟩⟩
theorem Ea_row {R : Gr} {x : Nat} (u v : Nat) : Ea R x (row R x).length u v ↔ Ea R (x + 1) 0 u v := by
  unfold Ea
  rw [List.take_of_length_le (Nat.le_refl _), List.take_zero]
  constructor
  · rintro ⟨h1, h2 | ⟨rfl, _⟩⟩
    · exact ⟨h1, .inl (by omega)⟩
    · exact ⟨h1, .inl (by omega)⟩
  · rintro ⟨h1, h2 | ⟨_, h⟩⟩
    · by_cases e : u = x
      · subst e; exact ⟨h1, .inr ⟨rfl, h1⟩⟩
      · exact ⟨h1, .inl (by omega)⟩
    · simp at h
theorem Ea_all {R : Gr} (u v : Nat) : Ea R R.length 0 u v ↔ v ∈ row R u := by
  unfold Ea
  constructor
  · exact fun h => h.1
  · intro h
    exact ⟨h, .inl (row_lt h)⟩

theorem Eb_step {R : Gr} {x j : Nat} (hj : j < (row R x).length) (u v : Nat) : ((Eb R x j u v ∨ (u = x ∧ v = (row R x).getD j 0)) ∨ (u = (row R x).getD j 0 ∧ v = x)) ↔ Eb R x (j + 1) u v := by
  unfold Eb
  rw [Ea_step hj, Ea_step hj]
  constructor
  · rintro (((h | h) | h) | ⟨h1, h2⟩)
    · exact .inl (.inl h)
    · exact .inr (.inl h)
    · exact .inl (.inr h)
    · exact .inr (.inr ⟨h2, h1⟩)
  · rintro ((h | h) | (h | ⟨h1, h2⟩))
    · exact .inl (.inl (.inl h))
    · exact .inl (.inr h)
    · exact .inl (.inl (.inr h))
    · exact .inr ⟨h2, h1⟩
theorem El_in {R : Gr} {at_ x j : Nat} (hj : j < (row R x).length) (hx : x ≠ at_) (hy : (row R x).getD j 0 ≠ at_) (u v : Nat) :
    ((El R at_ x j u v ∨ (u = x ∧ v = (row R x).getD j 0)) ∨ (u = (row R x).getD j 0 ∧ v = x)) ↔ El R at_ x (j + 1) u v := by
  unfold El
  rw [← Eb_step hj]
  constructor
  · rintro ((⟨h, h1, h2⟩ | ⟨rfl, rfl⟩) | ⟨rfl, rfl⟩)
    · exact ⟨.inl (.inl h), h1, h2⟩
    · exact ⟨.inl (.inr ⟨rfl, rfl⟩), hx, hy⟩
    · exact ⟨.inr ⟨rfl, rfl⟩, hy, hx⟩
  · rintro ⟨(h | h) | h, h1, h2⟩
    · exact .inl (.inl ⟨h, h1, h2⟩)
    · exact .inl (.inr h)
    · exact .inr h
theorem El_out {R : Gr} {at_ x j : Nat} (hj : j < (row R x).length) (hx : x = at_ ∨ (row R x).getD j 0 = at_) (u v : Nat) : El R at_ x j u v ↔ El R at_ x (j + 1) u v := by
  unfold El
  rw [← Eb_step hj]
  constructor
  · rintro ⟨h, h1, h2⟩
    exact ⟨.inl (.inl h), h1, h2⟩
  · rintro ⟨(h | ⟨rfl, rfl⟩) | ⟨rfl, rfl⟩, h1, h2⟩
    · exact ⟨h, h1, h2⟩
    · rcases hx with h | h
      · exact absurd h h1
      · exact absurd h h2
    · rcases hx with h | h
      · exact absurd h h2
      · exact absurd h h1

/-- Who is reached: by way of edges either way. -/
theorem pth_whole {R W : Gr} (hO : Ok R) (hW : ∀ u v, v ∈ row W u ↔ Eb R R.length 0 u v) {a c : Nat} : Pth W a c ↔ Joined R a c := by
  have he : ∀ u v, v ∈ row W u ↔ v ∈ adj R u := by
    intro u v
    rw [hW, mem_adj hO]
    unfold Eb
    rw [Ea_all, Ea_all]
  constructor
  · intro h
    induction h with
    | refl a => exact .refl trivial
    | head h1 _ ih => exact .head trivial ((he _ _).1 h1) ih
  · intro h
    induction h with
    | refl _ => exact .refl _
    | head _ h1 _ ih => exact .head ((he _ _).2 h1) ih
theorem pth_less {R L : Gr} (hO : Ok R) {v : Nat} (hL : ∀ u x, x ∈ row L u ↔ El R v R.length 0 u x) {a c : Nat} (ha : a ≠ v) : Pth L a c ↔ Con R v a c := by
  have he : ∀ u x, x ∈ row L u ↔ x ∈ adj R u ∧ u ≠ v ∧ x ≠ v := by
    intro u x
    rw [hL, mem_adj hO]
    unfold El Eb
    rw [Ea_all, Ea_all]
  constructor
  · intro h
    induction h with
    | refl a => exact .refl ha
    | head h1 _ ih => exact .head ha ((he _ _).1 h1).1 (ih ((he _ _).1 h1).2.2)
  · intro h
    induction h with
    | refl _ => exact .refl _
    | head h0 h1 h2 ih => exact .head ((he _ _).2 ⟨h1, ha, h2.first⟩) (ih h2.first)
theorem mem_reach {R : Gr} (hO : Ok R) {a : Nat} (ha : a < R.length) (x : Nat) : x ∈ reachF R a ↔ Pth R a x := by
  obtain ⟨h1, h2⟩ := distL_far hO ha
  rw [← h1.reach, h2]
  unfold reachF srtN fsts
  rw [List.mem_mergeSort]
theorem cut_first {R : Gr} (hO : Ok R) {v x0 : Nat} (hx0 : x0 ≠ v) (hj0 : Joined R v x0) : Cut R v ↔ ∃ x, x ≠ v ∧ Joined R v x ∧ ¬ Con R v x0 x := by
  constructor
  · rintro ⟨x, y, hx, hy, jx, jy, hn⟩
    apply Classical.byContradiction
    intro hno
    have key : ∀ z, z ≠ v → Joined R z v → Con R v x0 z := fun z hz jz => Classical.byContradiction fun h => hno ⟨z, hz, jz.symm hO, h⟩
    exact hn (((key x hx jx).symm hO).trans (key y hy jy))
  · rintro ⟨x, hx, jx, hn⟩
    exact ⟨x0, x, hx0, hx, hj0.symm hO, jx.symm hO, hn⟩
theorem cut_none {R : Gr} (hO : Ok R) {v : Nat} (h : ∀ x, Joined R v x → x = v) : ¬ Cut R v := by
  rintro ⟨x, _, hx, _, jx, _⟩
  exact hx (h x (jx.symm hO))
end Go.Proofs.Ytlcadkhhpnaofaa
