/-
  Both maps in memory, from call to call.
-/
import Derived.Test.YtekhlaodlagbdaaGreatDoorRn
namespace Go.Proofs.YtekhlaodlagbdaaGreatDoor
set_option maxRecDepth 100000
set_option linter.unusedSimpArgs false
open Go.RowKit

theorem bel_drewN {B : Nat} {a w : World} (h : Below B a w) (n : Nat) : Below B a (w.drewN n) := ⟨h.os, h.tape, h.output, h.size, h.block⟩

/-- Both maps: the program's at bm, the document's at br. -/
structure St (w0 : World) (bm gm cm br gr cr : Nat) (Q : List ByteArray) (w : World) : Prop where
  em : EM bm gm cm (lsts Q).length (Pure.wid (lsts Q)) (lsts Q).flatten w
  rf : RefAt w br gr cr Q
  bl : Below w0.heap.size w0 w
  lo : w0.heap.size ≤ bm
  nb : br ≠ bm
  ng : gr ≠ bm
  good : Pure.Good (lsts Q)

section
variable {w0 w w' : World} {bm gm cm br gr cr : Nat} {Q : List ByteArray}

theorem EM.lt {b g cap R C : Nat} {ms : List UInt8} {w : World} (h : EM b g cap R C ms w) : b < w.heap.size := World.block_lt_of_cell? w ⟨b, 0, none⟩ h.c0

theorem RefAt.grown {row : Option Nat} (h : RefAt w br gr cr Q) (hg : w.grownBy w' row) (hb : some br ≠ row) (hr : some gr ≠ row) : RefAt w' br gr cr Q :=
  ⟨(hg.block br (blk_lt h.blk) hb).trans h.blk, h.own.kept hg (.inr hr)⟩

theorem St.below (h : St w0 bm gm cm br gr cr Q w) (hb : Below w.heap.size w w') : St w0 bm gm cm br gr cr Q w' :=
  ⟨h.em.below hb, h.rf.below hb (Nat.le_refl _), h.bl.trans (hb.mono h.bl.size), h.lo, h.nb, h.ng, h.good⟩
theorem St.drewN (h : St w0 bm gm cm br gr cr Q w) (n : Nat) : St w0 bm gm cm br gr cr Q (w.drewN n) := h.below (bel_drewN (Below.refl _ _) n)

theorem St.turned (h : St w0 bm gm cm br gr cr Q w) (he : EM bm gm cm (lsts Q).length (Pure.wid (lsts Q)) (lsts Q).flatten w') (hg : w.grownBy w' (some bm)) : St w0 bm gm cm br gr cr Q w' :=
  ⟨he, h.rf.grown hg (fun e => h.nb (by injection e)) (fun e => h.ng (by injection e)), h.bl.grown hg (h.bl.size) (fun k e => by cases e; exact h.lo), h.lo, h.nb, h.ng, h.good⟩

/-- A list x of memory behind w1, while the maps are asked on. -/
structure XS (w0 : World) (bm gm cm br gr cr : Nat) (Q : List ByteArray) (w1 : World) (v : Value) (n : Nat) (w : World) : Prop where
  st : St w0 bm gm cm br gr cr Q w
  own : ∃ xs, w.ownsRow w1.heap.size 3 1 v n xs
  s1 : St w0 bm gm cm br gr cr Q w1
  b1 : 0 < n → Done bm (lsts Q).length (Pure.wid (lsts Q)) (lsts Q).flatten w1 ∧ Below w1.heap.size w1 w
  sz : w1.heap.size ≤ w.heap.size

variable {w1 : World} {v : Value} {n : Nat}

theorem XS.below (h : XS w0 bm gm cm br gr cr Q w1 v n w) (hb : Below w.heap.size w w') : XS w0 bm gm cm br gr cr Q w1 v n w' := by
  obtain ⟨xs, hx⟩ := h.own
  exact ⟨h.st.below hb, ⟨xs, owns_below hx hb (Nat.le_refl _)⟩, h.s1, fun hn => ⟨(h.b1 hn).1, (h.b1 hn).2.trans (hb.mono h.sz)⟩, Nat.le_trans h.sz hb.size⟩
theorem XS.drewN (h : XS w0 bm gm cm br gr cr Q w1 v n w) (m : Nat) : XS w0 bm gm cm br gr cr Q w1 v n (w.drewN m) := h.below (bel_drewN (Below.refl _ _) m)

theorem XS.turned (h : XS w0 bm gm cm br gr cr Q w1 v n w) (he : EM bm gm cm (lsts Q).length (Pure.wid (lsts Q)) (lsts Q).flatten w') (hg : w.grownBy w' (some bm))
    (hs : Done bm (lsts Q).length (Pure.wid (lsts Q)) (lsts Q).flatten w → w' = w) : XS w0 bm gm cm br gr cr Q w1 v n w' := by
  obtain ⟨xs, hx⟩ := h.own
  have hbm := h.s1.em.lt
  refine ⟨h.st.turned he hg, ⟨xs, hx.kept hg ?_⟩, h.s1, fun hn => ?_, Nat.le_trans h.sz hg.size⟩
  · right
    intro e
    have := (hx.lt _ e).1
    omega
  · have hd : Done bm (lsts Q).length (Pure.wid (lsts Q)) (lsts Q).flatten w := (h.b1 hn).1.grown (grown_of_below (h.b1 hn).2 none) (by intro r e; cases e)
    rw [hs hd]
    exact h.b1 hn

theorem Lst.below {l : List Nat} (h : Lst w v l) (hb : Below w.heap.size w w') : Lst w' v l := by
  obtain ⟨a, c, rfl, hc⟩ := h
  refine ⟨a, c, rfl, fun j hj => ?_⟩
  obtain ⟨g, rfl, hg⟩ := hc j hj
  exact ⟨g, rfl, (hb.cell (p := ⟨g, j, none⟩) (World.block_lt_of_cell? w ⟨g, j, none⟩ hg)).trans hg⟩

/-- x[k] = u. -/
theorem XS.set (h : XS w0 bm gm cm br gr cr Q w1 v n w) {g k : Nat} (hv : v.ownBlock = some g) (hk : k < n) (u : Value) : XS w0 bm gm cm br gr cr Q w1 v n (w.setCell ⟨g, k, none⟩ u) := by
  obtain ⟨xs, hx⟩ := h.own
  have hb := h.b1 (by omega)
  have hg := (hx.lt _ hv).1
  have hB : Below w1.heap.size w1 (w.setCell ⟨g, k, none⟩ u) := hb.2.setCell hg u
  refine ⟨h.s1.below hB, ?_, h.s1, fun _ => ⟨hb.1, hB⟩, by simp; exact h.sz⟩
  rcases hx.2 with ⟨rfl, h0⟩ | ⟨g', cap, cur, rfl, h1, h2, h3, h4, h5, h6⟩
  · omega
  · simp only [Value.ownBlock, Option.some.injEq] at hv
    subst hv
    refine ⟨(cur.setIfInBounds k u).toList.take (n * 1), ?_, .inr ⟨g', cap, cur.setIfInBounds k u, rfl, h1, blk_set h2 k u, h3, h4, by simpa using h5, rfl⟩⟩
    have hl := hx.1
    rw [← h6] at hl
    simpa using hl

theorem XS.cell (h : XS w0 bm gm cm br gr cr Q w1 v n w) (hn : 0 < n) : ∃ g c, v = .slice (some ⟨g, 0, none⟩) n c ∧ ∀ k, k < n → (∃ u, w.cell? ⟨g, k, none⟩ = some u) ∧ w.frozen? ⟨g, k, none⟩ = false := by
  obtain ⟨xs, hx⟩ := h.own
  rcases hx.2 with ⟨rfl, h0⟩ | ⟨g', cap, cur, rfl, h1, h2, h3, h4, h5, h6⟩
  · omega
  · refine ⟨g', cap, rfl, fun k hk => ⟨⟨cur[k]'(by omega), ?_⟩, blk_free h2 k⟩⟩
    rw [blk_cell h2]
    exact Array.getElem?_eq_getElem _

theorem XS.slice (h : XS w0 bm gm cm br gr cr Q w1 v n w) : ∃ a c, v = .slice a n c := by
  obtain ⟨xs, hx⟩ := h.own
  rcases hx.2 with ⟨rfl, h0⟩ | ⟨g', cap, cur, rfl, _⟩
  · exact ⟨none, 0, by rw [h0]⟩
  · exact ⟨_, _, rfl⟩

/-- m.Next. -/
theorem st_next (i : Int) (h : St w0 bm gm cm br gr cr Q w) :
    Calls Tryz.prog 49 #[.pointer (some ⟨bm, 0, none⟩), .int .i64 i] w fun e w' => ∃ v w1, e = .returned v ∧ XS w0 bm gm cm br gr cr Q w1 v (nextZ (lsts Q).length (Pure.wid (lsts Q)) (lsts Q).flatten i).length w' ∧ Lst w' v (nextZ (lsts Q).length (Pure.wid (lsts Q)) (lsts Q).flatten i) := by
  refine (next_any i h.em).mono ?_
  rintro e w' ⟨v, w1, rfl, he, hg, hs, hd, hown, hb⟩
  have h1 := h.turned he hg
  refine ⟨v, w1, rfl, ⟨h1.below hb, ⟨_, hown⟩, h1, fun hn => ⟨hd ?_, hb⟩, hb.size⟩, lst_of hown⟩
  unfold nextZ at hn
  split at hn
  · rename_i hc; exact hc
  · simp at hn

/-- m.Back, while x is held. -/
theorem xs_back (i : Int) (h : XS w0 bm gm cm br gr cr Q w1 v n w) :
    Calls Tryz.prog 112 #[.pointer (some ⟨bm, 0, none⟩), .int .i64 i] w fun e w' => ∃ v2, e = .returned v2 ∧ XS w0 bm gm cm br gr cr Q w1 v n w' ∧ Lst w' v2 (backZ (lsts Q).length (Pure.wid (lsts Q)) (lsts Q).flatten i) := by
  refine (back_any i h.st.em).mono ?_
  rintro e w' ⟨v2, w2, rfl, he, hg, hs, _, hown, hb⟩
  exact ⟨v2, rfl, (h.turned he hg hs).below hb, lst_of hown⟩

theorem good_area (h : Pure.Good (lsts Q)) : (lsts Q).length * Pure.wid (lsts Q) = (lsts Q).flatten.length := h.size.symm

/-- w.Next, while x is held. -/
theorem xs_rnext {l : List Nat} {u : Value} (i : Int) (h : XS w0 bm gm cm br gr cr Q w1 v n w) (hl : Lst w u l) :
    Calls Tryz.prog 78 #[.pointer (some ⟨br, 0, none⟩), .int .i64 i] w fun e w' => ∃ v2, e = .returned v2 ∧ XS w0 bm gm cm br gr cr Q w1 v n w' ∧ Lst w' v2 (nextZ (lsts Q).length (Pure.wid (lsts Q)) (lsts Q).flatten i) ∧ Lst w' u l := by
  refine (rnext_any i h.st.rf h.st.good).mono ?_
  rintro e w' ⟨v2, rfl, hown, hb⟩
  rw [next_eq h.st.good.lo (good_area h.st.good)] at hown
  exact ⟨v2, rfl, h.below hb, lst_of hown, hl.below hb⟩

theorem st_edge (i x : Int) (h : St w0 bm gm cm br gr cr Q w) :
    Calls Tryz.prog 35 #[.pointer (some ⟨bm, 0, none⟩), .int .i64 i, .int .i64 x] w fun e w' => e = .returned (.bool (edgeB (Pure.wid (lsts Q)) (lsts Q).flatten i x)) ∧ St w0 bm gm cm br gr cr Q w' := by
  refine (medge_any i x h.em).mono ?_
  rintro e w' ⟨rfl, he, hg⟩
  exact ⟨by rw [edge_eq h.good.lo (good_area h.good)], h.turned he hg⟩

theorem st_redge (i x : Int) (h : St w0 bm gm cm br gr cr Q w) :
    Calls Tryz.prog 70 #[.pointer (some ⟨br, 0, none⟩), .int .i64 i, .int .i64 x] w fun e w' => e = .returned (.bool (edgeB (Pure.wid (lsts Q)) (lsts Q).flatten i x)) ∧ St w0 bm gm cm br gr cr Q w' := by
  refine (redge_any i x h.rf h.good).mono ?_
  rintro e w' ⟨rfl, m, rfl⟩
  exact ⟨rfl, h.drewN m⟩

theorem good_pos (h : Pure.Good (lsts Q)) : 0 < (lsts Q).flatten.length := by
  rw [h.size]
  have h1 := h.lo
  have h2 : 0 < (lsts Q).length := List.length_pos_iff.2 h.ne
  exact Nat.mul_pos h2 h1

theorem st_far (i x : Int) (h : St w0 bm gm cm br gr cr Q w) :
    Calls Tryz.prog 47 #[.pointer (some ⟨bm, 0, none⟩), .int .i64 i, .int .i64 x] w fun e w' => e = .returned (.int .i64 (farZ (Pure.wid (lsts Q)) (lsts Q).flatten.length i x)) ∧ St w0 bm gm cm br gr cr Q w' := by
  refine (far_any i x h.em (good_pos h.good)).mono ?_
  rintro e w' ⟨rfl, m, rfl⟩
  exact ⟨rfl, h.drewN m⟩

theorem st_rfar (i x : Int) (h : St w0 bm gm cm br gr cr Q w) :
    Calls Tryz.prog 97 #[.pointer (some ⟨br, 0, none⟩), .int .i64 i, .int .i64 x] w fun e w' => e = .returned (.int .i64 (farZ (Pure.wid (lsts Q)) (lsts Q).flatten.length i x)) ∧ St w0 bm gm cm br gr cr Q w' := by
  refine (rfar_any i x h.rf h.good).mono ?_
  rintro e w' ⟨rfl, m, rfl⟩
  exact ⟨rfl, h.drewN m⟩

theorem st_edges (h : St w0 bm gm cm br gr cr Q w) :
    Calls Tryz.prog 37 #[.pointer (some ⟨bm, 0, none⟩)] w fun e w' => e = .returned (.int .i64 (eds (lsts Q).length (Pure.wid (lsts Q)) (lsts Q).flatten (lsts Q).flatten.length : Int)) ∧ St w0 bm gm cm br gr cr Q w' := by
  refine (edges_any h.em).mono ?_
  rintro e w' ⟨rfl, he, hg⟩
  exact ⟨rfl, h.turned he hg⟩

theorem st_cells (h : St w0 bm gm cm br gr cr Q w) :
    Calls Tryz.prog 55 #[.pointer (some ⟨br, 0, none⟩)] w fun e w' => e = .returned (.int .i64 ((lsts Q).flatten.length : Int)) ∧ St w0 bm gm cm br gr cr Q w' := by
  refine (rcells_any h.rf h.good).mono ?_
  rintro e w' ⟨rfl, m, rfl⟩
  exact ⟨rfl, h.drewN m⟩
end

/-- How many edges the first cells have, -1 counted as one. -/
def tot (R C : Nat) (ms : List UInt8) (k : Nat) : Nat := eds R C ms (min (k - 1) ms.length)
theorem tot_step (R C : Nat) (ms : List UInt8) (k : Nat) : tot R C ms (k + 1) = tot R C ms k + (nextZ R C ms ((k : Int) - 1)).length := by
  unfold tot nextZ
  rcases k with _ | k
  · rw [if_neg (by omega)]; rfl
  · have e : (((k + 1 : Nat) : Int) - 1) = (k : Int) := by omega
    rw [e]
    by_cases h : k < ms.length
    · rw [if_pos (by omega), show min (k + 1 + 1 - 1) ms.length = k + 1 by omega, show min (k + 1 - 1) ms.length = k by omega, eds_sum]
      rfl
    · rw [if_neg (by omega), show min (k + 1 + 1 - 1) ms.length = ms.length by omega, show min (k + 1 - 1) ms.length = ms.length by omega]
      rfl
theorem tot_end (R C : Nat) (ms : List UInt8) : tot R C ms (ms.length + 2) = eds R C ms ms.length := by
  unfold tot
  rw [show min (ms.length + 2 - 1) ms.length = ms.length by omega]
theorem tot_le (R C : Nat) (ms : List UInt8) (k : Nat) : tot R C ms k ≤ 4 * ms.length := by
  unfold tot
  have := eds_len R C ms (min (k - 1) ms.length)
  omega
theorem next_len (R C : Nat) (ms : List UInt8) (i : Int) : (nextZ R C ms i).length ≤ 4 := by
  unfold nextZ
  split
  · exact outs_len R C ms _
  · simp
theorem back_len (R C : Nat) (ms : List UInt8) (i : Int) : (backZ R C ms i).length ≤ ms.length := by
  unfold backZ
  split
  · exact ins_len R C ms _
  · simp
end Go.Proofs.YtekhlaodlagbdaaGreatDoor
