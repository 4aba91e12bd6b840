/-
  The document's Add and New: their walks.
-/
import Derived.Test.YtlcadkhhpnaofaaGRf2
import Derived.Deep.RegionLaw
import Derived.Deep.AppendLies
namespace Go.Proofs.Ytlcadkhhpnaofaa
set_option maxRecDepth 100000
open Go Go.RowKit Gq

def setE (E : Nat → Nat → Bool) (x y : Nat) (i j : Nat) : Bool := if i = x ∧ j = y then true else E i j
theorem rowE_set {E : Nat → Nat → Bool} {n x y i : Nat} : rowE (setE E x y) n i = if i = x then (rowE E n i).set y true else rowE E n i := by
  by_cases e : i = x
  · rw [if_pos e]
    apply List.ext_getElem (by simp [rowE])
    intro j h1 h2
    have hj : j < n := by simpa [rowE] using h1
    rw [List.getElem_set]
    simp only [rowE, List.getElem_map, List.getElem_range, setE]
    by_cases e2 : y = j
    · rw [if_pos e2, if_pos ⟨e, e2.symm⟩]
    · rw [if_neg e2, if_neg (fun h => e2 h.2.symm)]
  · rw [if_neg e]
    unfold rowE
    apply List.map_congr_left
    intro j _
    simp only [setE]
    rw [if_neg (fun h => e h.1)]

theorem RG.put {w : World} {r n : Nat} {E : Nat → Nat → Bool} {v : Value} {P : Nat → Nat} {Z : Nat → Prop} (h : RG w r n n E v P Z) {x y : Nat} (hx : x < n) : RG (w.setCell ⟨P x, y, none⟩ (.bool true)) r n n (setE E x y) v P Z := by
  have hk : Kept (fun k => k = P x) w (w.setCell ⟨P x, y, none⟩ (.bool true)) := (Kept.refl (fun k => k = P x) w).setCell (p := ⟨P x, y, none⟩) (.inl rfl) _
  have hr := (h.pr x hx).1
  have hv := (h.pr x hx).2
  refine ⟨hk.cell h.hd (fun e => hr e.symm), by rw [hk.frozen (p := ⟨r, 0, none⟩) (h.lt r h.zr) (fun e => hr e.symm)]; exact h.fz, hk.row h.own (fun g hg e => hv (by rw [hg, e])), fun i hi => ?_, h.inj, h.pr, h.vr, h.zr, h.zv, h.zp, fun j hj => Nat.lt_of_lt_of_le (h.lt j hj) hk.size⟩
  rw [rowE_set]
  by_cases e : i = x
  · subst e
    rw [if_pos rfl, ← bs_set]
    have := heap_setCell_same w (P i) y _ 4 (.bool true) (h.rows i hi)
    simpa using this
  · rw [if_neg e, hk.block (P i) (h.lt _ (h.zp i hi)) (fun hh => e (h.inj i x hi hx hh))]
    exact h.rows i hi

theorem rAdd_out {w : World} {r n : Nat} {E : Nat → Nat → Bool} {Z : Nat → Prop} (h : RAt w r n E Z) (hn : n ≤ 1024) {a c : Int} (hac : ¬ (isNode n a = true ∧ isNode n c = true ∧ a ≠ c)) :
    Calls Try.prog 9 #[.pointer (some ⟨r, 0, none⟩), .int .i64 a, .int .i64 c] w fun e w' => e = .returned (.int .i64 20) ∧ w' = w := by
  have HA := Lib.hid (node_any h hn a)
  have HC := Lib.hid (node_any h hn c)
  clear h
  have key : isNode n a = false ∨ (isNode n a = true ∧ isNode n c = false) ∨ (isNode n a = true ∧ isNode n c = true ∧ a = c) := by
    cases ha : isNode n a <;> cases hc : isNode n c <;> simp_all
  rcases key with ha | ⟨ha, hc⟩ | ⟨ha, hc, rfl⟩
  · cases hc : isNode n c with
    | false =>
      rw [ha] at HA; rw [hc] at HC
      clear ha hc hac
      go_enter Try.func9, Try.ntmps9
      go_wp2_with (first | (with_reducible refine HA.out.mono ?_; rintro e w' ⟨rfl, hw⟩; obtain rfl := hw.symm; clear hw) | (with_reducible refine HC.out.mono ?_; rintro e w' ⟨rfl, hw⟩; obtain rfl := hw.symm; clear hw))
      go_ret
      exact ⟨rfl, rfl⟩
    | true =>
      rw [ha] at HA; rw [hc] at HC
      clear ha hc hac
      go_enter Try.func9, Try.ntmps9
      go_wp2_with (first | (with_reducible refine HA.out.mono ?_; rintro e w' ⟨rfl, hw⟩; obtain rfl := hw.symm; clear hw) | (with_reducible refine HC.out.mono ?_; rintro e w' ⟨rfl, hw⟩; obtain rfl := hw.symm; clear hw))
      go_ret
      exact ⟨rfl, rfl⟩
  · rw [ha] at HA; rw [hc] at HC
    clear ha hc hac
    go_enter Try.func9, Try.ntmps9
    go_wp2_with (first | (with_reducible refine HA.out.mono ?_; rintro e w' ⟨rfl, hw⟩; obtain rfl := hw.symm; clear hw) | (with_reducible refine HC.out.mono ?_; rintro e w' ⟨rfl, hw⟩; obtain rfl := hw.symm; clear hw))
    go_ret
    exact ⟨rfl, rfl⟩
  · rw [ha] at HA
    clear ha hc hac HC
    go_enter Try.func9, Try.ntmps9
    go_wp2_with (with_reducible refine HA.out.mono ?_; rintro e w' ⟨rfl, hw⟩; obtain rfl := hw.symm; clear hw)
    go_ret
    exact ⟨rfl, rfl⟩

theorem rAdd_any {w : World} {r n : Nat} {E : Nat → Nat → Bool} {Z : Nat → Prop} (h : RAt w r n E Z) (hn : n ≤ 1024) {x y : Nat} (hx : x < n) (hy : y < n) (hxy : x ≠ y) :
    Calls Try.prog 9 #[.pointer (some ⟨r, 0, none⟩), .int .i64 (x : Int), .int .i64 (y : Int)] w fun e w' => e = .returned (.int .i64 0) ∧ RAt w' r n (setE E x y) Z ∧ Kept Z w w' := by
  have HA := Lib.hid (node_any h hn (x : Int))
  have HC := Lib.hid (node_any h hn (y : Int))
  have e1 : isNode n (x : Int) = true := by simp [isNode, hx]
  have e2 : isNode n (y : Int) = true := by simp [isNode, hy]
  rw [e1] at HA; rw [e2] at HC
  obtain ⟨v, P, h⟩ := h
  have ho := h.own
  obtain ⟨g, cap, rfl⟩ : ∃ g cap, v = .slice (some ⟨g, 0, none⟩) n cap := by
    rcases h.own.2 with ⟨rfl, h0⟩ | ⟨g, cap, cur, rfl, _⟩
    · omega
    · exact ⟨g, cap, rfl⟩
  have f1 := h.hd
  have f2 : w.cell? ⟨g, x, none⟩ = some (.slice (some ⟨P x, 0, none⟩) n n) := by
    rw [World.ownsRow.cellAt ho x (by omega)]
    simp [hx]
  have f3 := bs_cell (h.rows x hx) hy
  have f4 := blk_free (h.rows x hx) y
  have HQ : Hid (RAt (w.setCell ⟨P x, y, none⟩ (.bool true)) r n (setE E x y) Z ∧ Kept Z w (w.setCell ⟨P x, y, none⟩ (.bool true))) :=
    ⟨⟨_, _, h.put hx⟩, (Kept.refl Z w).setCell (p := ⟨P x, y, none⟩) (.inl (h.zp x hx)) _⟩
  have e3 : (x == y) = false := by simpa using hxy
  have e4 : decide (x = y) = false := decide_eq_false hxy
  have e5 : ((x : Int) == (y : Int)) = false := by simp; omega
  clear h ho e1 e2 hxy
  have x0 : (0 : Int) ≤ (x : Int) := by omega
  have x1 : (x : Int) < (n : Int) := by omega
  have y0 : (0 : Int) ≤ (y : Int) := by omega
  have y1 : (y : Int) < (n : Int) := by omega
  go_enter Try.func9, Try.ntmps9
  go_wp2_with (first | (with_reducible refine HA.out.mono ?_; rintro e w' ⟨rfl, hw⟩; obtain rfl := hw.symm; clear hw) | (with_reducible refine HC.out.mono ?_; rintro e w' ⟨rfl, hw⟩; obtain rfl := hw.symm; clear hw))
  go_ret
  exact ⟨rfl, HQ.out⟩

/-! New -/
def noE (_ _ : Nat) : Bool := false
theorem rowE_no (n i : Nat) : rowE noE n i = List.replicate n false := by
  unfold rowE noE
  apply List.ext_getElem (by simp)
  intro j h1 h2
  simp
def NewZ (w wr : World) (j : Nat) : Prop := w.heap.size ≤ j ∧ j < wr.heap.size
def RN (w : World) (r n k : Nat) (wr : World) : Prop := ∃ v P, RG wr r n k noE v P (NewZ w wr) ∧ Below w.heap.size w wr

theorem RG.grow {w wr w2 : World} {r n k g cap : Nat} {v : Value} {P : Nat → Nat} {t : TypeId} (h : RG wr r n k noE v P (NewZ w wr)) (hb : Below w.heap.size w wr)
    (hg : ((wr.drew.alloc (.cells (madeCells #[.bool false] n) 4)).alloc (.cells #[.slice (some ⟨wr.heap.size, 0, none⟩) n n] t)).grownBy w2 v.ownBlock)
    (ho2 : w2.ownsRow 0 53 1 (.slice (some ⟨g, 0, none⟩) (k + 1) cap) (k + 1) (((List.range k).map fun i => Value.slice (some ⟨P i, 0, none⟩) n n) ++ [.slice (some ⟨wr.heap.size, 0, none⟩) n n])) (hat : v.ownBlock = some g ∨ wr.heap.size < g) :
    (w2.cell? ⟨r, 0, none⟩ = some v ∧ w2.frozen? ⟨r, 0, none⟩ = false) ∧ RN w r n (k + 1) (w2.setCell ⟨r, 0, none⟩ (.slice (some ⟨g, 0, none⟩) (k + 1) cap)) := by
  have hs : wr.heap.size + 2 ≤ w2.heap.size := by have := hg.size; simpa using this
  have hg2 : g < w2.heap.size := (World.ownsRow.lt ho2 g rfl).2
  have hblk : ∀ j, j < wr.heap.size → v.ownBlock ≠ some j → w2.heap[j]? = wr.heap[j]? := by
    intro j hj hv
    rw [hg.block j (by simp; omega) (fun e => hv e.symm), Below.heap_alloc _ _ _ (by simp; omega)]
    exact Below.heap_alloc wr.drew _ j hj
  have hnew : w2.heap[wr.heap.size]? = some (.cells (madeCells #[.bool false] n) 4 (0, 0)) := by
    rw [hg.block _ (by simp; omega) (fun e => by have := h.lt _ (h.zv _ e.symm); omega), Below.heap_alloc _ _ _ (by simp)]
    exact heap_alloc_new wr.drew _
  have hrl := (h.lt r h.zr)
  have c2 : w2.cell? ⟨r, 0, none⟩ = some v := (World.cell?_of_block (a := ⟨r, 0, none⟩) (hblk r hrl h.vr)).trans h.hd
  have f2 : w2.frozen? ⟨r, 0, none⟩ = false := (World.frozen?_of_block (a := ⟨r, 0, none⟩) (hblk r hrl h.vr)).trans h.fz
  refine ⟨⟨c2, f2⟩, .slice (some ⟨g, 0, none⟩) (k + 1) cap, fun i => if i < k then P i else wr.heap.size, ?_, ?_⟩
  · have hkr : Kept (fun j => j = r) w2 (w2.setCell ⟨r, 0, none⟩ (.slice (some ⟨g, 0, none⟩) (k + 1) cap)) := (Kept.refl (fun j => j = r) w2).setCell (p := ⟨r, 0, none⟩) (.inl rfl) _
    have hgr : g ≠ r := by
      rintro rfl
      rcases hat with h1 | h1
      · exact h.vr h1
      · omega
    have hz := hb.size
    refine ⟨World.cell?_setCell_same _ _ _ c2, by rw [World.frozen?_setCell]; exact f2, ?_, fun i hi => ?_, fun i j hi hj e => ?_, fun i hi => ?_, ?_, ⟨h.zr.1, by simp; omega⟩, fun g' hg' => ?_, fun i hi => ?_, fun j hj => hj.2⟩
    · refine hkr.row ?_ (fun g' hg' e => ?_)
      · have e : ((List.range (k + 1)).map fun i => Value.slice (some ⟨if i < k then P i else wr.heap.size, 0, none⟩) n n) = ((List.range k).map fun i => Value.slice (some ⟨P i, 0, none⟩) n n) ++ [.slice (some ⟨wr.heap.size, 0, none⟩) n n] := by
          rw [List.range_succ, List.map_append]
          congr 1
          · apply List.map_congr_left
            intro i hi
            rw [if_pos (List.mem_range.1 hi)]
          · simp
        rw [e]
        exact ho2
      · simp [Value.ownBlock] at hg'
        omega
    · have hrow : ∀ j, j ≠ r → (w2.setCell ⟨r, 0, none⟩ (.slice (some ⟨g, 0, none⟩) (k + 1) cap)).heap[j]? = w2.heap[j]? := fun j hj => Below.heap_setCell _ _ _ j hj
      by_cases e : i < k
      · rw [if_pos e, hrow _ (h.pr i e).1, hblk _ (h.lt _ (h.zp i e)) (h.pr i e).2]
        exact h.rows i e
      · rw [if_neg e, hrow _ (by omega), hnew, rowE_no, bs_made]
    · by_cases e1 : i < k
      · by_cases e2 : j < k
        · rw [if_pos e1, if_pos e2] at e; exact h.inj i j e1 e2 e
        · rw [if_pos e1, if_neg e2] at e
          have := h.lt _ (h.zp i e1); omega
      · by_cases e2 : j < k
        · rw [if_neg e1, if_pos e2] at e
          have := h.lt _ (h.zp j e2); omega
        · omega
    · by_cases e1 : i < k
      · rw [if_pos e1]
        refine ⟨(h.pr i e1).1, fun e => ?_⟩
        simp only [Value.ownBlock, Option.some.injEq] at e
        rcases hat with h1 | h1
        · exact (h.pr i e1).2 (by rw [h1]; simpa [Value.ownBlock] using e)
        · have := h.lt _ (h.zp i e1); omega
      · rw [if_neg e1]
        refine ⟨by omega, fun e => ?_⟩
        simp only [Value.ownBlock, Option.some.injEq] at e
        rcases hat with h1 | h1
        · have := h.lt _ (h.zv g h1); omega
        · omega
    · simp [Value.ownBlock]; exact hgr
    · have e : g' = g := by simp [Value.ownBlock] at hg'; omega
      subst e
      refine ⟨?_, by simpa using hg2⟩
      rcases hat with h1 | h1
      · exact (h.zv _ h1).1
      · omega
    · by_cases e1 : i < k
      · rw [if_pos e1]
        have := h.zp i e1
        exact ⟨this.1, by have := this.2; simp; omega⟩
      · rw [if_neg e1]
        exact ⟨hz, by simp; omega⟩
  · have hz := hb.size
    have h1 : Below w.heap.size w w2 := ((hb.drew.alloc hb.size _).alloc (by simp; omega) _).grown hg (by simp; omega) (fun j hj => (h.zv j hj).1)
    exact h1.setCell h.zr.1 _

theorem Try.infoRowsB : (Try.prog.info? 53).map (fun i => (i.zero, i.size, i.bytes)) = some (some (.slice none 0 0), 1, 24) := by kernel_rfl

def NewP (w : World) (n : Nat) (e : Ending) (w' : World) : Prop := ∃ r Z, e = .returned (.tuple #[.pointer (some ⟨r, 0, none⟩), .int .i64 0]) ∧ RAt w' r n noE Z ∧ (∀ j, Z j → w.heap.size ≤ j) ∧ Below w.heap.size w w'

set_option maxHeartbeats 2000000 in
theorem rNew_any (w : World) {n : Nat} (hn : n ≤ 1024) :
    Calls Try.prog 7 #[.int .i64 (n : Int)] w (NewP w n) := by
  obtain ⟨i0, hi, hz0, hz1, hz2⟩ := info_parts Try.infoRowsB
  have hmk := makeBools_run n (by omega)
  have hd : decide (1024 < (n : Int)) = false := by simp; omega
  have H0 : Hid (∀ t, RN w w.heap.size n 0 (w.alloc (.cells #[.slice none 0 0] t))) := by
    intro t
    have hb := heap_alloc_new w (.cells #[.slice none 0 0] t)
    refine ⟨.slice none 0 0, fun _ => 0, ⟨by rw [blk_cell hb]; rfl, blk_free hb 0, World.ownsRow_nil _ _ _ _, fun i hi => by omega, fun i j hi => by omega, fun i hi => by omega, by simp [Value.ownBlock], ⟨Nat.le_refl _, by simp⟩, fun g hg => by simp [Value.ownBlock] at hg, fun i hi => by omega, fun j hj => hj.2⟩, (Below.refl _ w).alloc (Nat.le_refl _) _⟩
  go_enter Try.func7, Try.ntmps7
  go_wp2
  have H1 := H0.out
  clear H0
  go_loopw [5] (fun u wr => ∃ k : Nat, k ≤ n ∧ u = .int .i64 (k : Int) ∧ RN w w.heap.size n k wr) (fun u _ => n - (intOf u).toNat)
  case atStart => exact ⟨0, Nat.zero_le _, rfl, H1 _⟩
  case round =>
    obtain ⟨k, hk, rfl, v, P, hg, hb⟩ := hrel
    clear H1
    by_cases hlt : k < n
    · have hcc := hg.hd
      have hc0 := World.block_lt_of_cell? wr _ hg.hd
      have hcc1 : ∀ o, (wr.alloc o).cell? ⟨w.heap.size, 0, none⟩ = some v := fun o => (World.cell?_alloc_some wr _ _ (by rw [hcc]; rfl)).trans hcc
      have hcc2 : ∀ o o', ((wr.alloc o).alloc o').cell? ⟨w.heap.size, 0, none⟩ = some v := fun o o' => (World.cell?_alloc_some _ _ _ (by rw [hcc1]; rfl)).trans (hcc1 o)
      have HO := Lib.hid hg.own
      have HS : Hid (∀ t w2 g cap, ((wr.drew.alloc (.cells (madeCells #[.bool false] n) 4)).alloc (.cells #[.slice (some ⟨wr.heap.size, 0, none⟩) n n] t)).grownBy w2 v.ownBlock →
          w2.ownsRow 0 53 1 (.slice (some ⟨g, 0, none⟩) (k + 1) cap) (k + 1) (((List.range k).map fun i => Value.slice (some ⟨P i, 0, none⟩) n n) ++ [.slice (some ⟨wr.heap.size, 0, none⟩) n n]) → (v.ownBlock = some g ∨ wr.heap.size < g) →
          (w2.cell? ⟨w.heap.size, 0, none⟩ = some v ∧ w2.frozen? ⟨w.heap.size, 0, none⟩ = false) ∧ RN w w.heap.size n (k + 1) (w2.setCell ⟨w.heap.size, 0, none⟩ (.slice (some ⟨g, 0, none⟩) (k + 1) cap))) :=
        fun t w2 g cap h1 h2 h3 => hg.grow hb h1 h2 h3
      clear hg hb
      generalize ((List.range k).map fun i => Value.slice (some ⟨P i, 0, none⟩) n n) = xs at *
      go_wp2
      go_region_law (refine step_append_lies _ rfl (.tmp 23) (.tmp 26) 50 rfl 0 53 i0 (.slice none 0 0) 1 24 Try.underlying50 hi hz0 hz1 hz2 rfl (by decide) v k xs (by simp [Act.eval]) ((HO.out.drew.alloc _).alloc _) ⟨wr.heap.size + 1, 0, none⟩ 1 1 [.slice (some ⟨wr.heap.size, 0, none⟩) n n] (by simp [Act.eval]) rfl (by intro j u hj; match j, hj with | 0, hj => (simp at hj; subst hj; simp [Addr.add])) (by intro u hu; simp at hu; subst hu; rfl) (by decide) (by unfold maxLen; omega) (by omega) (by simp) (wr.heap.size + 1 + 1) (by simp) ?_; intro g2 cap2 w2 ho2 hg2 hat2 _; obtain ⟨⟨hq1, hq2⟩, hq3⟩ := HS.out _ _ _ _ hg2 ho2 (hat2.imp id (fun h => by omega)))
      all_goals
        have HQ := Lib.hid hq3
        clear hq3 hg2 ho2 hat2 hcc hcc1 hcc2
        go_wp2
        go_roundw
        case rel => exact ⟨k + 1, by omega, by go_num, HQ.out⟩
        case measure => simp [intOf]; omega
    · obtain rfl : k = n := by omega
      have HQ : Hid (NewP w k (.returned (.tuple #[.pointer (some ⟨w.heap.size, 0, none⟩), .int .i64 0])) wr) := ⟨_, _, rfl, ⟨v, P, hg⟩, fun j hj => hj.1, hb⟩
      clear hg hb
      go_wp2
      go_ret2
      exact HQ.out
theorem rNew_out (w : World) {n : Int} (hn : n < 0 ∨ 1024 < n) :
    Calls Try.prog 7 #[.int .i64 n] w fun e w' => e = .returned (.tuple #[.pointer none, .int .i64 20]) ∧ w' = w := by
  by_cases h0 : n < 0
  · go_enter Try.func7, Try.ntmps7
    go_wp2
    go_ret2
    exact ⟨rfl, rfl⟩
  · have h1 : 1024 < n := by omega
    go_enter Try.func7, Try.ntmps7
    go_wp2
    go_ret2
    exact ⟨rfl, rfl⟩
end Go.Proofs.Ytlcadkhhpnaofaa
