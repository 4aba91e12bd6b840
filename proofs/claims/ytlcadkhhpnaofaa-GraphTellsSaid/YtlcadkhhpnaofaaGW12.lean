/-
  Strong: its first statement, whose order is open.
-/
import Derived.Test.YtlcadkhhpnaofaaGW11
import Derived.Test.YtlcadkhhpnaofaaInv
namespace Go.Proofs.Ytlcadkhhpnaofaa
set_option maxRecDepth 100000
open Go Go.RowKit Gq

/-- What has been made so far: c tells whose each block is. -/
structure SI (w : World) (R : Gr) (l1 l4 l5 l6 l7 l8 : Bool) (b' B p3 p4 : Nat) (S' : Nat → Prop) (c : Nat → Nat) (wr : World) : Prop where
  be : Below w.heap.size w wr
  cl : ∀ k, c k ≠ 0 → w.heap.size ≤ k ∧ k < wr.heap.size
  vg : l1 = true → GAt wr b' (bkF R) S' ∧ ∀ k, S' k → c k = 1
  vB : l4 = true → c B = 4 ∧ wr.heap[B]? = some (.cells (bs (List.replicate R.length false)) 4 (0, 0))
  v3 : l5 = true → c p3 = 5 ∧ wr.heap[p3]? = some (.cells #[.pointer (if l7 = true then some ⟨b', 0, none⟩ else none)] 23 (0, 0))
  v4 : l6 = true → c p4 = 6 ∧ wr.heap[p4]? = some (.cells #[if l8 = true then .slice (some ⟨B, 0, none⟩) R.length R.length else .slice none 0 0] 53 (0, 0))
  d7 : l7 = true → l1 = true
  d8 : l8 = true → l4 = true
  e7 : l7 = true → l5 = true
  e8 : l8 = true → l6 = true

variable {w wr wr' : World} {R : Gr} {l1 l4 l5 l6 l7 l8 : Bool} {b' B p3 p4 : Nat} {S' : Nat → Prop} {c : Nat → Nat}

theorem SI.new (h : SI w R l1 l4 l5 l6 l7 l8 b' B p3 p4 S' c wr) (hk : Still wr wr') (c' : Nat → Nat) (hc : ∀ k, k < wr.heap.size → c' k = c k) (hc' : ∀ k, c' k ≠ 0 → k < wr'.heap.size) : SI w R l1 l4 l5 l6 l7 l8 b' B p3 p4 S' c' wr' := by
  have hz : ∀ k, wr.heap.size ≤ k → c k = 0 := fun k hk => by
    rcases Nat.eq_zero_or_pos (c k) with h0 | h0
    · exact h0
    · have := (h.cl k (by omega)).2; omega
  refine ⟨h.be.trans (hk.below (fun _ h => h.elim) h.be.size), fun k h0 => ⟨?_, hc' k h0⟩, fun e => ⟨(h.vg e).1.still hk, fun k hs => ?_⟩, fun e => ⟨?_, (hk.block _ (blk_lt (h.vB e).2) id).trans (h.vB e).2⟩, fun e => ⟨?_, (hk.block _ (blk_lt (h.v3 e).2) id).trans (h.v3 e).2⟩, fun e => ⟨?_, (hk.block _ (blk_lt (h.v4 e).2) id).trans (h.v4 e).2⟩, h.d7, h.d8, h.e7, h.e8⟩
  · rcases Nat.lt_or_ge k wr.heap.size with h1 | h1
    · rw [hc k h1] at h0; exact (h.cl k h0).1
    · exact Nat.le_trans h.be.size h1
  · rw [hc k ((h.vg e).1.lt k hs)]; exact (h.vg e).2 k hs
  · rw [hc _ (blk_lt (h.vB e).2)]; exact (h.vB e).1
  · rw [hc _ (blk_lt (h.v3 e).2)]; exact (h.v3 e).1
  · rw [hc _ (blk_lt (h.v4 e).2)]; exact (h.v4 e).1

theorem SI.alloc5 (h : SI w R l1 l4 false l6 l7 l8 b' B p3 p4 S' c wr) (h7 : l7 = false) : SI w R l1 l4 true l6 l7 l8 b' B wr.heap.size p4 S' (fun k => if k = wr.heap.size then 5 else c k) (wr.alloc (.cells #[.pointer none] 23)) := by
  have h1 := h.new (wr' := wr.alloc (.cells #[.pointer none] 23)) ((Kept.refl _ wr).alloc _) (fun k => if k = wr.heap.size then 5 else c k) (fun k hk => by rw [if_neg (by omega)]) (fun k hk => by
    split at hk
    · simp; omega
    · have := (h.cl k hk).2; simp; omega)
  refine ⟨h1.be, h1.cl, h1.vg, h1.vB, fun _ => ⟨if_pos rfl, ?_⟩, h1.v4, h1.d7, h1.d8, fun _ => rfl, h1.e8⟩
  rw [h7]
  exact heap_alloc_new wr _
theorem SI.alloc6 (h : SI w R l1 l4 l5 false l7 l8 b' B p3 p4 S' c wr) (h8 : l8 = false) : SI w R l1 l4 l5 true l7 l8 b' B p3 wr.heap.size S' (fun k => if k = wr.heap.size then 6 else c k) (wr.alloc (.cells #[.slice none 0 0] 53)) := by
  have h1 := h.new (wr' := wr.alloc (.cells #[.slice none 0 0] 53)) ((Kept.refl _ wr).alloc _) (fun k => if k = wr.heap.size then 6 else c k) (fun k hk => by rw [if_neg (by omega)]) (fun k hk => by
    split at hk
    · simp; omega
    · have := (h.cl k hk).2; simp; omega)
  refine ⟨h1.be, h1.cl, h1.vg, h1.vB, h1.v3, fun _ => ⟨if_pos rfl, ?_⟩, h1.d7, h1.d8, h1.e7, fun _ => rfl⟩
  rw [h8]
  exact heap_alloc_new wr _
theorem SI.make (h : SI w R l1 false l5 l6 l7 l8 b' B p3 p4 S' c wr) (h8 : l8 = false) : SI w R l1 true l5 l6 l7 l8 b' wr.heap.size p3 p4 S' (fun k => if k = wr.heap.size then 4 else c k) (wr.alloc (.cells (madeCells #[.bool false] R.length) 4)) := by
  have h1 := h.new (wr' := wr.alloc (.cells (madeCells #[.bool false] R.length) 4)) ((Kept.refl _ wr).alloc _) (fun k => if k = wr.heap.size then 4 else c k) (fun k hk => by rw [if_neg (by omega)]) (fun k hk => by
    split at hk
    · simp; omega
    · have := (h.cl k hk).2; simp; omega)
  refine ⟨h1.be, h1.cl, h1.vg, fun _ => ⟨if_pos rfl, ?_⟩, h1.v3, fun e => ?_, h1.d7, fun e => rfl, h1.e7, h1.e8⟩
  · rw [← bs_made]; exact heap_alloc_new wr _
  · have := h1.v4 e
    rw [h8] at this ⊢
    exact this
theorem SI.back {b1 : Nat} (h : SI w R false l4 l5 l6 l7 l8 b' B p3 p4 S' c wr) (h7 : l7 = false) (hg : GraphPost wr (bkF R) b1 wr') : ∃ S1 c', SI w R true l4 l5 l6 l7 l8 b1 B p3 p4 S1 c' wr' := by
  obtain ⟨S1, hG, hfr, hb⟩ := hg
  refine ⟨S1, fun k => if wr.heap.size ≤ k ∧ k < wr'.heap.size then 1 else if k < wr.heap.size then c k else 0, ?_⟩
  have h1 := h.new (wr' := wr') (Kept.of_below hb (Nat.le_refl _)) (fun k => if wr.heap.size ≤ k ∧ k < wr'.heap.size then 1 else if k < wr.heap.size then c k else 0) (fun k hk => by rw [if_neg (by omega), if_pos hk]) (fun k hk => by
    have := hb.size
    split at hk
    · omega
    · split at hk
      · omega
      · exact absurd rfl hk)
  refine ⟨h1.be, h1.cl, fun _ => ⟨hG, fun k hs => if_pos ⟨hfr k hs, hG.lt k hs⟩⟩, h1.vB, fun e => ?_, h1.v4, fun e => rfl, h1.d8, h1.e7, h1.e8⟩
  have := h1.v3 e
  rw [h7] at this ⊢
  exact this
theorem SI.store7 (h : SI w R true l4 true l6 l7 l8 b' B p3 p4 S' c wr) : SI w R true l4 true l6 true l8 b' B p3 p4 S' c (wr.setCell ⟨p3, 0, none⟩ (.pointer (some ⟨b', 0, none⟩))) := by
  have hk : Kept (fun k => k = p3) wr (wr.setCell ⟨p3, 0, none⟩ (.pointer (some ⟨b', 0, none⟩))) := (Kept.refl (fun k => k = p3) wr).setCell (p := ⟨p3, 0, none⟩) (.inl rfl) _
  have hp := (h.v3 rfl).1
  have hn : ∀ k x, c k = x → x ≠ 5 → k ≠ p3 := fun k x h1 h2 e => h2 (by rw [← h1, e, hp])
  refine ⟨h.be.trans (hk.below (by rintro k rfl; exact (h.cl _ (by omega)).1) h.be.size), fun k h0 => ⟨(h.cl k h0).1, Nat.lt_of_lt_of_le (h.cl k h0).2 hk.size⟩, fun e => ⟨(h.vg e).1.kept hk (fun k hs => hn k 1 ((h.vg e).2 k hs) (by decide)), (h.vg e).2⟩, fun e => ⟨(h.vB e).1, (hk.block _ (blk_lt (h.vB e).2) (hn _ 4 (h.vB e).1 (by decide))).trans (h.vB e).2⟩, fun _ => ⟨hp, ?_⟩, fun e => ⟨(h.v4 e).1, (hk.block _ (blk_lt (h.v4 e).2) (hn _ 6 (h.v4 e).1 (by decide))).trans (h.v4 e).2⟩, fun _ => rfl, h.d8, fun _ => rfl, h.e8⟩
  have := heap_setCell_same wr p3 0 _ 23 (.pointer (some ⟨b', 0, none⟩)) (h.v3 rfl).2
  simpa using this
theorem SI.store8 (h : SI w R l1 true l5 true l7 l8 b' B p3 p4 S' c wr) : SI w R l1 true l5 true l7 true b' B p3 p4 S' c (wr.setCell ⟨p4, 0, none⟩ (.slice (some ⟨B, 0, none⟩) R.length R.length)) := by
  have hk : Kept (fun k => k = p4) wr (wr.setCell ⟨p4, 0, none⟩ (.slice (some ⟨B, 0, none⟩) R.length R.length)) := (Kept.refl (fun k => k = p4) wr).setCell (p := ⟨p4, 0, none⟩) (.inl rfl) _
  have hp := (h.v4 rfl).1
  have hn : ∀ k x, c k = x → x ≠ 6 → k ≠ p4 := fun k x h1 h2 e => h2 (by rw [← h1, e, hp])
  refine ⟨h.be.trans (hk.below (by rintro k rfl; exact (h.cl _ (by omega)).1) h.be.size), fun k h0 => ⟨(h.cl k h0).1, Nat.lt_of_lt_of_le (h.cl k h0).2 hk.size⟩, fun e => ⟨(h.vg e).1.kept hk (fun k hs => hn k 1 ((h.vg e).2 k hs) (by decide)), (h.vg e).2⟩, fun e => ⟨(h.vB e).1, (hk.block _ (blk_lt (h.vB e).2) (hn _ 4 (h.vB e).1 (by decide))).trans (h.vB e).2⟩, fun e => ⟨(h.v3 e).1, (hk.block _ (blk_lt (h.v3 e).2) (hn _ 5 (h.v3 e).1 (by decide))).trans (h.v3 e).2⟩, fun _ => ⟨hp, ?_⟩, h.d7, fun _ => rfl, h.e7, fun _ => rfl⟩
  have := heap_setCell_same wr p4 0 _ 53 (.slice (some ⟨B, 0, none⟩) R.length R.length) (h.v4 rfl).2
  simpa using this

/-- Those listed, the frame, the world. -/
def SInv (p0 : Option Addr) (w : World) (R : Gr) (l : Array Bool) (a : Act) (wr : World) : Prop :=
  ∃ (l0 l1 l2 l3 l4 l5 l6 l7 l8 : Bool) (x3 x4 x9 x10 x11 x12 x13 : Value) (b' B p3 p4 : Nat) (S' : Nat → Prop) (c : Nat → Nat), l = #[l0, l1, l2, l3, l4, l5, l6, l7, l8] ∧
    a = { tmps := #[.pointer p0, undef, .slice none 0 0, x3, x4, undef, undef, undef, undef, x9, x10, x11, x12, x13, undef, undef, undef, undef, undef, undef, undef, undef, undef, undef, undef, undef, undef, undef, undef, undef, undef, undef, undef, undef, undef, undef, undef, undef], defers := [] } ∧
    (l0 = true → x9 = .pointer p0) ∧ (l1 = true → x10 = .pointer (some ⟨b', 0, none⟩)) ∧ (l2 = true → x11 = .pointer p0) ∧ (l3 = true → x12 = .int .i64 (R.length : Int)) ∧ (l4 = true → x13 = .slice (some ⟨B, 0, none⟩) R.length R.length) ∧
    (l5 = true → x3 = .pointer (some ⟨p3, 0, none⟩)) ∧ (l6 = true → x4 = .pointer (some ⟨p4, 0, none⟩)) ∧ SI w R l1 l4 l5 l6 l7 l8 b' B p3 p4 S' c wr

/-- What is there behind it. -/
structure SStart (w : World) (R : Gr) (b' B p3 p4 : Nat) (S' : Nat → Prop) (wr : World) : Prop where
  be : Below w.heap.size w wr
  g : GAt wr b' (bkF R) S'
  fr : ∀ k, S' k → w.heap.size ≤ k
  vB : wr.heap[B]? = some (.cells (bs (List.replicate R.length false)) 4 (0, 0))
  v3 : wr.heap[p3]? = some (.cells #[.pointer (some ⟨b', 0, none⟩)] 23 (0, 0))
  v4 : wr.heap[p4]? = some (.cells #[.slice (some ⟨B, 0, none⟩) R.length R.length] 53 (0, 0))
  lo : w.heap.size ≤ B ∧ w.heap.size ≤ p3 ∧ w.heap.size ≤ p4
  ne : B ≠ p3 ∧ B ≠ p4 ∧ p3 ≠ p4 ∧ ¬ S' B ∧ ¬ S' p3 ∧ ¬ S' p4
theorem SI.start (h : SI w R true true true true true true b' B p3 p4 S' c wr) : SStart w R b' B p3 p4 S' wr := by
  have h1 := h.vg rfl
  have h2 := h.vB rfl
  have h3 := h.v3 rfl
  have h4 := h.v4 rfl
  have hn : ∀ k j x y, c k = x → c j = y → x ≠ y → k ≠ j := fun k j x y e1 e2 hne e => hne (by rw [← e1, ← e2, e])
  exact ⟨h.be, h1.1, fun k hk => (h.cl k (by rw [h1.2 k hk]; decide)).1, h2.2, h3.2, h4.2, ⟨(h.cl B (by rw [h2.1]; decide)).1, (h.cl p3 (by rw [h3.1]; decide)).1, (h.cl p4 (by rw [h4.1]; decide)).1⟩,
    ⟨hn _ _ _ _ h2.1 h3.1 (by decide), hn _ _ _ _ h2.1 h4.1 (by decide), hn _ _ _ _ h3.1 h4.1 (by decide), (fun e => by have := h1.2 _ e; rw [h2.1] at this; cases this), (fun e => by have := h1.2 _ e; rw [h3.1] at this; cases this), (fun e => by have := h1.2 _ e; rw [h4.1] at this; cases this)⟩⟩

end Go.Proofs.Ytlcadkhhpnaofaa
