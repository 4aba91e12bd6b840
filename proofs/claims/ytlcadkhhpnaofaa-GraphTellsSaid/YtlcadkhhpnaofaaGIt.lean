/-
  The search's memory: who is met, the front, the next front.
-/
import Derived.Test.YtlcadkhhpnaofaaGW5
import Derived.Test.YtlcadkhhpnaofaaGRange
namespace Go.Proofs.Ytlcadkhhpnaofaa
set_option maxRecDepth 100000
open Go Go.RowKit Gq

def bs (M : Mt) : Array Value := (M.map Value.bool).toArray
theorem bs_size (M : Mt) : (bs M).size = M.length := by simp [bs]
theorem bs_get {M : Mt} {i : Nat} (h : i < M.length) : (bs M)[i]? = some (.bool (mtb M i)) := by simp [bs, mtb, List.getD, h]
theorem bs_set (M : Mt) (i : Nat) : (bs M).setIfInBounds i (.bool true) = bs (M.set i true) := by
  unfold bs
  apply Array.toList_inj.1
  simp
theorem bs_made (n : Nat) : madeCells #[.bool false] n = bs (List.replicate n false) := by
  apply Array.toList_inj.1
  rw [toList_madeCells_one]
  simp [bs]

theorem RowAt.blocks {w w' : World} {v : Value} {l : List Nat} (h : RowAt w v l) (hb : ∀ g, v.ownBlock = some g → w'.heap[g]? = w.heap[g]?) : RowAt w' v l := by
  refine ⟨h.1, ?_⟩
  rcases h.2 with hn | ⟨g, cap, cur, rfl, hbs, hg, rest⟩
  · exact .inl hn
  · exact .inr ⟨g, cap, cur, rfl, hbs, by rw [hb g rfl]; exact hg, rest⟩

structure ItAt (X G : Nat → Prop) (W : World) (B : Nat) (M : Mt) (wr : World) : Prop where
  x : ∀ k, X k → wr.heap[k]? = W.heap[k]?
  m : wr.heap[B]? = some (.cells (bs M) 4 (0, 0))
  gm : G B
  gx : ∀ k, G k → ¬ X k ∧ k < wr.heap.size
  xl : ∀ k, X k → k < wr.heap.size
def RowG (G : Nat → Prop) (B : Nat) (wr : World) (v : Value) (l : List Nat) : Prop := RowAt wr v l ∧ ∀ k, v.ownBlock = some k → G k ∧ k ≠ B

theorem ItAt.step {X G G' : Nat → Prop} {W : World} {B : Nat} {M : Mt} {wr w' : World} (h : ItAt X G W B M wr) (hk : Kept (fun k => G k ∧ k ≠ B) wr w') (hG : ∀ k, G k → G' k) (hG' : ∀ k, G' k → G k ∨ (wr.heap.size ≤ k ∧ k < w'.heap.size)) : ItAt X G' W B M w' := by
  refine ⟨fun k hx => ?_, ?_, hG _ h.gm, fun k hg => ?_, fun k hx => Nat.lt_of_lt_of_le (h.xl k hx) hk.size⟩
  · rw [hk.block k (h.xl k hx) (fun hg => (h.gx k hg.1).1 hx)]; exact h.x k hx
  · rw [hk.block B (blk_lt h.m) (fun hg => hg.2 rfl)]; exact h.m
  · rcases hG' k hg with h1 | ⟨h1, h2⟩
    · exact ⟨(h.gx k h1).1, Nat.lt_of_lt_of_le (h.gx k h1).2 hk.size⟩
    · exact ⟨fun hx => by have := h.xl k hx; omega, h2⟩
theorem ItAt.store {X G : Nat → Prop} {W : World} {B : Nat} {M : Mt} {wr : World} (h : ItAt X G W B M wr) (i : Nat) : ItAt X G W B (M.set i true) (wr.setCell ⟨B, i, none⟩ (.bool true)) := by
  have hk : Kept (fun k => k = B) wr (wr.setCell ⟨B, i, none⟩ (.bool true)) := (Kept.refl (fun k => k = B) wr).setCell (p := ⟨B, i, none⟩) (.inl rfl) _
  refine ⟨fun k hx => ?_, ?_, h.gm, fun k hg => ⟨(h.gx k hg).1, Nat.lt_of_lt_of_le (h.gx k hg).2 hk.size⟩, fun k hx => Nat.lt_of_lt_of_le (h.xl k hx) hk.size⟩
  · rw [hk.block k (h.xl k hx) (fun e => (h.gx B h.gm).1 (e ▸ hx))]; exact h.x k hx
  · rw [← bs_set]
    exact heap_setCell_same wr B i (bs M) 4 (.bool true) h.m
theorem ItAt.kb {X G : Nat → Prop} {W : World} {B : Nat} {M : Mt} {wr w' : World} (h : ItAt X G W B M wr) (hk : KeepB (fun k => X k ∨ G k) wr w') : ItAt X G W B M w' :=
  ⟨fun k hx => (hk.2 k (.inl hx) (h.xl k hx)).trans (h.x k hx), (hk.2 B (.inr h.gm) (blk_lt h.m)).trans h.m, h.gm, fun k hg => ⟨(h.gx k hg).1, Nat.lt_of_lt_of_le (h.gx k hg).2 hk.1⟩, fun k hx => Nat.lt_of_lt_of_le (h.xl k hx) hk.1⟩

/-- The iterator between two steps: met M; the front F at vf; the next front N at v; the caller holds J of what was told. -/
structure Mid (X : Nat → Prop) (W : World) (B : Nat) (J : (Nat → Prop) → List (Nat × Nat) → World → Prop) (told : List (Nat × Nat)) (M : Mt) (vf : Value) (F : List Nat) (v : Value) (N : List Nat) (G : Nat → Prop) (wr : World) : Prop where
  it : ItAt X G W B M wr
  fr : RowG G B wr vf F
  nx : RowG G B wr v N
  ap : ∀ k, vf.ownBlock = some k → v.ownBlock ≠ some k
  j : J G told wr

variable {X : Nat → Prop} {W : World} {B : Nat} {J : (Nat → Prop) → List (Nat × Nat) → World → Prop} {told : List (Nat × Nat)} {M : Mt} {vf v : Value} {F N : List Nat} {G : Nat → Prop} {wr : World}

theorem Mid.store (HJ : ∀ G G' s A B, J G s A → Stp G G' A B → J G' s B) (h : Mid X W B J told M vf F v N G wr) (i : Nat) : Mid X W B J told (M.set i true) vf F v N G (wr.setCell ⟨B, i, none⟩ (.bool true)) := by
  have hk : Kept (fun k => k = B) wr (wr.setCell ⟨B, i, none⟩ (.bool true)) := (Kept.refl (fun k => k = B) wr).setCell (p := ⟨B, i, none⟩) (.inl rfl) _
  exact ⟨h.it.store i, ⟨h.fr.1.kept hk (fun g hg => (h.fr.2 g hg).2), h.fr.2⟩, ⟨h.nx.1.kept hk (fun g hg => (h.nx.2 g hg).2), h.nx.2⟩, h.ap,
    HJ _ _ _ _ _ h.j ⟨hk.mono (fun k _ e => by rw [e]; exact h.it.gm), fun k hg => .inl hg⟩⟩
theorem Mid.still (HJ : ∀ G G' s A B, J G s A → Stp G G' A B → J G' s B) (h : Mid X W B J told M vf F v N G wr) {w' : World} (hk : Still wr w') : Mid X W B J told M vf F v N G w' :=
  ⟨h.it.step (hk.mono (fun _ _ h => h.elim)) (fun _ h => h) (fun _ h => .inl h), ⟨h.fr.1.still hk, h.fr.2⟩, ⟨h.nx.1.still hk, h.nx.2⟩, h.ap, HJ _ _ _ _ _ h.j ⟨hk.mono (fun _ _ h => h.elim), fun _ h => .inl h⟩⟩
/-- A node is put behind. -/
theorem Mid.append (HJ : ∀ G G' s A B, J G s A → Stp G G' A B → J G' s B) (h : Mid X W B J told M vf F v N G wr) {w2 : World} {g2 cap2 H x : Nat} (hH : wr.heap.size = H)
    (ho : w2.ownsRow 0 3 1 (.slice (some ⟨g2, 0, none⟩) (N.length + 1) cap2) (N.length + 1) (nis N ++ [.int .i64 (x : Int)])) (hgr : wr.grownBy w2 v.ownBlock) (hat : v.ownBlock = some g2 ∨ g2 = H) (hlt : g2 < w2.heap.size) :
    ∃ G', Mid X W B J told M vf F (.slice (some ⟨g2, 0, none⟩) (N.length + 1) cap2) (N ++ [x]) G' w2 := by
  have hk : Kept (fun k => v.ownBlock = some k) wr w2 := (Kept.refl _ wr).grown hgr (fun k h => .inl h)
  have hf : ∀ k, vf.ownBlock = some k → k ≠ g2 := by
    rintro k hk rfl
    rcases hat with h1 | h1
    · exact h.ap _ hk h1
    · have := h.fr.1.lt hk; omega
  have hB : g2 ≠ B := by
    rintro rfl
    rcases hat with h1 | h1
    · exact (h.nx.2 _ h1).2 rfl
    · have := blk_lt h.it.m; omega
  refine ⟨fun k => G k ∨ k = g2, h.it.step (hk.mono (fun k _ e => h.nx.2 k e)) (fun _ h => .inl h) (fun k hg => ?_), ⟨h.fr.1.kept hk (fun g hg => h.ap g hg), fun k hk => ⟨.inl (h.fr.2 k hk).1, (h.fr.2 k hk).2⟩⟩, ⟨?_, fun k hk => ?_⟩, fun k hk e => ?_, HJ _ _ _ _ _ h.j ⟨hk.mono (fun k _ e => (h.nx.2 k e).1), fun k hg => ?_⟩⟩
  · rcases hg with hg | rfl
    · exact .inl hg
    · rcases hat with h1 | h1
      · exact .inl (h.nx.2 _ h1).1
      · exact .inr ⟨by omega, hlt⟩
  · show World.ownsRow _ _ _ _ _ _ _
    rw [nis_append, List.length_append]
    exact ho
  · have hk : some g2 = some k := hk
    obtain rfl : g2 = k := by simpa using hk
    exact ⟨.inr rfl, hB⟩
  · have e : some g2 = some k := e
    exact hf k hk (by simpa using e.symm)
  · rcases hg with hg | rfl
    · exact .inl hg
    · rcases hat with h1 | h1
      · exact .inl (h.nx.2 _ h1).1
      · exact .inr ⟨by omega, hlt⟩
/-- The caller's round. -/
theorem Mid.round (h : Mid X W B J told M vf F v N G wr) {w' : World} {x : Nat × Nat} (hj : J G (told ++ [x]) w') (hk : KeepB (fun k => X k ∨ G k) wr w') : Mid X W B J (told ++ [x]) M vf F v N G w' :=
  ⟨h.it.kb hk, ⟨h.fr.1.blocks (fun g hg => hk.2 g (.inr (h.fr.2 g hg).1) (h.fr.1.lt hg)), h.fr.2⟩, ⟨h.nx.1.blocks (fun g hg => hk.2 g (.inr (h.nx.2 g hg).1) (h.nx.1.lt hg)), h.nx.2⟩, h.ap, hj⟩
/-- The next front comes. -/
theorem Mid.turn (h : Mid X W B J told M vf F v N G wr) : Mid X W B J told M v N (.slice none 0 0) [] G wr :=
  ⟨h.it, h.nx, ⟨RowAt.nil _, fun k hk => by simp [Value.ownBlock] at hk⟩, fun k _ e => by simp [Value.ownBlock] at e, h.j⟩
theorem Mid.nil (h : Mid X W B J told M vf F v N G wr) : Mid X W B J told M vf F (.slice none 0 0) [] G wr :=
  ⟨h.it, h.fr, ⟨RowAt.nil _, fun k hk => by simp [Value.ownBlock] at hk⟩, fun k _ e => by simp [Value.ownBlock] at e, h.j⟩
/-- The first front. -/
theorem Mid.first (HJ : ∀ G G' s A B, J G s A → Stp G G' A B → J G' s B) (hi : ItAt X G W B M wr) (hj : J G told wr) (a : Nat) : ∃ G', Mid X W B J told M (.slice (some ⟨wr.heap.size, 0, none⟩) 1 1) [a] (.slice none 0 0) [] G' (wr.alloc (.cells #[.int .i64 (a : Int)] 3)) := by
  have hk : Still wr (wr.alloc (.cells #[.int .i64 (a : Int)] 3)) := (Kept.refl _ wr).alloc _
  refine ⟨fun k => G k ∨ k = wr.heap.size, hi.step (hk.mono (fun _ _ h => h.elim)) (fun _ h => .inl h) (fun k hg => ?_), ⟨?_, fun k hk => ?_⟩, ⟨RowAt.nil _, fun k hk => by simp [Value.ownBlock] at hk⟩, fun k _ e => by simp [Value.ownBlock] at e, HJ _ _ _ _ _ hj ⟨hk.mono (fun _ _ h => h.elim), fun k hg => ?_⟩⟩
  · rcases hg with hg | rfl
    · exact .inl hg
    · exact .inr ⟨Nat.le_refl _, by simp⟩
  · exact row_of_cells (ys := [a]) (heap_alloc_new wr _) rfl (Nat.le_refl _) (by unfold maxLen; simp) (fun j hj => by
      obtain rfl : j = 0 := by simpa using hj
      rw [blk_cell (heap_alloc_new wr _)]; rfl)
  · have hk : some wr.heap.size = some k := hk
    obtain rfl : wr.heap.size = k := by simpa using hk
    refine ⟨.inr rfl, ?_⟩
    have := blk_lt hi.m
    omega
  · rcases hg with hg | rfl
    · exact .inl hg
    · exact .inr ⟨Nat.le_refl _, by simp⟩
end Go.Proofs.Ytlcadkhhpnaofaa
