/-
  Strong: what its two loops hold.
-/
import Derived.Test.YtlcadkhhpnaofaaGW12
import Derived.Test.YtlcadkhhpnaofaaGBwd
import Derived.Test.YtlcadkhhpnaofaaGNum
namespace Go.Proofs.Ytlcadkhhpnaofaa
set_option maxRecDepth 100000
open Go Go.RowKit Gq

theorem vis_lt {R : Gr} (hO : Ok R) : ∀ (f v : Nat) (s : Mt × List Nat), v < R.length → (∀ x ∈ s.2, x < R.length) → ∀ x ∈ (visF R f v s).2, x < R.length
  | 0, _, s, _, hs => hs
  | f + 1, v, s, hv, hs => by
    rw [visF_succ]
    have h1 : ∀ (l : List Nat) (t : Mt × List Nat), (∀ x ∈ l, x < R.length) → (∀ x ∈ t.2, x < R.length) → ∀ x ∈ (l.foldl (vis1 R f) t).2, x < R.length := by
      intro l
      induction l with
      | nil => exact fun t _ h => h
      | cons y l ih =>
        intro t hl ht
        rw [List.foldl_cons]
        refine ih _ (fun x hx => hl x (List.mem_cons_of_mem _ hx)) ?_
        unfold vis1
        split
        · exact ht
        · exact vis_lt hO f y t (hl y (List.mem_cons_self ..)) ht
    intro x hx
    rcases List.mem_append.1 hx with hx | hx
    · exact h1 (row R v) (s.1.set v true, s.2) (hO.node v) hs x hx
    · simp at hx; rw [hx]; exact hv
theorem fin_lt {R : Gr} (hO : Ok R) : ∀ x ∈ finF R, x < R.length := by
  have h1 : ∀ (l : List Nat) (t : Mt × List Nat), (∀ x ∈ l, x < R.length) → (∀ x ∈ t.2, x < R.length) → ∀ x ∈ (l.foldl (vis1 R R.length) t).2, x < R.length := by
    intro l
    induction l with
    | nil => exact fun t _ h => h
    | cons y l ih =>
      intro t hl ht
      rw [List.foldl_cons]
      refine ih _ (fun x hx => hl x (List.mem_cons_of_mem _ hx)) ?_
      unfold vis1
      split
      · exact ht
      · exact vis_lt hO _ y t (hl y (List.mem_cons_self ..)) ht
  exact h1 (List.range R.length) (List.replicate R.length false, []) (fun x hx => List.mem_range.1 hx) (by simp)
theorem fin_len {R : Gr} (hO : Ok R) : (finF R).length ≤ R.length := by
  have := (finK_b hO (Nat.le_refl R.length)).2.2
  unfold finF
  omega

def sS (R : Gr) (pre : List (Nat × Nat)) : Mt × List Nat := (pre.map (·.2)).foldl (strN (bkF R)) (List.replicate R.length false, List.replicate R.length 0)
theorem sS_snoc (R : Gr) (pre : List (Nat × Nat)) (x : Nat × Nat) : sS R (pre ++ [x]) = strN (bkF R) (sS R pre) x.2 := by simp [sS, List.foldl_append]
theorem sS_all (R : Gr) : strF R = numF (sS R (bkw (finF R))).2 := by unfold strF sS; rw [bkw_snd]
/-- How long both lists are, and what heads are. -/
def SL (R : Gr) (s : Mt × List Nat) : Prop := s.1.length = R.length ∧ s.2.length = R.length ∧ ∀ x ∈ s.2, x ≤ 1024
theorem hdL_le (T : List (Nat × Nat)) {h : Nat} (hh : h ≤ 1024) (H : List Nat) (hH : ∀ x ∈ H, x ≤ 1024) : ∀ x ∈ hdL T h H, x ≤ 1024 := by
  unfold hdL
  induction T generalizing H with
  | nil => exact hH
  | cons p T ih =>
    rw [List.foldl_cons]
    refine ih _ (fun x hx => ?_)
    rcases List.mem_or_eq_of_mem_set hx with h1 | h1
    · exact hH x h1
    · rw [h1]; exact hh
theorem SL.next {R : Gr} (hO : Ok R) {s : Mt × List Nat} (h : SL R s) {x : Nat} (hx : x < R.length) : SL R (strN (bkF R) s x) := by
  unfold strN
  split
  · exact h
  · rename_i hu
    obtain ⟨far, hl⟩ := tells_lv (bkF_ok hO) (M0 := s.1) (a := x) (by rw [bkF_length]; exact hx) (by rw [bkF_length]; exact h.1) (by simpa using hu)
    refine ⟨by rw [hl.len, bkF_length], by rw [hdL_length]; exact h.2.1, hdL_le _ (by have := hO.size; omega) _ h.2.2⟩

/-- The outer loop. -/
structure SO (W0 : World) (R : Gr) (B D : Nat) (G : Nat → Prop) (pre : List (Nat × Nat)) (W : World) : Prop where
  k : Kept (fun k => k = B ∨ k = D) W0 W
  m : W.heap[B]? = some (.cells (bs (sS R pre).1) 4 (0, 0))
  h : W.heap[D]? = some (.cells (ic (ints (sS R pre).2)) 3 (0, 0))
  l : SL R (sS R pre)
  g : ∀ k, G k → W0.heap.size ≤ k
theorem SO.own {W0 : World} {R : Gr} {B D : Nat} (G : Nat → Prop) : OwnFrom W0.heap.size (SO W0 R B D G) := fun _ _ _ _ h hg hr =>
  ⟨h.k.grown hg (fun k e => .inr (hr k e).1), blk_own hg hr h.m, blk_own hg hr h.h, h.l, h.g⟩
theorem SO.stp {W0 : World} {R : Gr} {B D : Nat} (hB : B < W0.heap.size) (hD : D < W0.heap.size) {G G' : Nat → Prop} {pre : List (Nat × Nat)} {A A' : World} (h : SO W0 R B D G pre A) (hs : Stp G G' A A') : SO W0 R B D G' pre A' := by
  have hs0 := h.k.size
  refine ⟨h.k.trans hs.1 (fun i hi hg => by have := h.g i hg; omega), (hs.1.block _ (blk_lt h.m) (fun e => by have := h.g _ e; omega)).trans h.m, (hs.1.block _ (blk_lt h.h) (fun e => by have := h.g _ e; omega)).trans h.h, h.l, fun k hk => ?_⟩
  rcases hs.2 k hk with h1 | h1
  · exact h.g k h1
  · omega
/-- The inner one. -/
structure SN (W1 : World) (B D hd : Nat) (H : List Nat) (G : Nat → Prop) (pre : List (Nat × Nat)) (W : World) : Prop where
  k : Kept (fun k => k = B ∨ k = D) W1 W
  h : W.heap[D]? = some (.cells (ic (ints (hdL pre hd H))) 3 (0, 0))
  g : ∀ k, G k → k = B ∨ W1.heap.size ≤ k
theorem SN.own {W1 : World} {B D hd : Nat} {H : List Nat} (G : Nat → Prop) : OwnFrom W1.heap.size (SN W1 B D hd H G) := fun _ _ _ _ h hg hr =>
  ⟨h.k.grown hg (fun k e => .inr (hr k e).1), blk_own hg hr h.h, h.g⟩
theorem SN.stp {W1 : World} {B D hd : Nat} {H : List Nat} (hBD : B ≠ D) (hD : D < W1.heap.size) {G G' : Nat → Prop} {pre : List (Nat × Nat)} {A A' : World} (h : SN W1 B D hd H G pre A) (hs : Stp G G' A A') : SN W1 B D hd H G' pre A' := by
  have hs0 := h.k.size
  refine ⟨h.k.trans hs.1 (fun i hi hg => ?_), (hs.1.block _ (blk_lt h.h) (fun e => ?_)).trans h.h, fun k hk => ?_⟩
  · rcases h.g i hg with h1 | h1
    · exact .inl h1
    · omega
  · rcases h.g _ e with h1 | h1
    · exact hBD h1.symm
    · omega
  · rcases hs.2 k hk with h1 | h1
    · exact h.g k h1
    · omega
theorem SN.store {W1 W : World} {B D hd : Nat} {H : List Nat} {G : Nat → Prop} {pre : List (Nat × Nat)} (h : SN W1 B D hd H G pre W) (x : Nat × Nat) : SN W1 B D hd H G (pre ++ [x]) (W.setCell ⟨D, x.1, none⟩ (.int .i64 (hd : Int))) := by
  have hk : Kept (fun k => k = D) W (W.setCell ⟨D, x.1, none⟩ (.int .i64 (hd : Int))) := (Kept.refl (fun k => k = D) W).setCell (p := ⟨D, x.1, none⟩) (.inl rfl) _
  refine ⟨h.k.trans hk (fun _ _ h => .inr h), ?_, h.g⟩
  rw [hdL_snoc]
  have e : ints ((hdL pre hd H).set x.1 hd) = (ints (hdL pre hd H)).set x.1 (hd : Int) := by simp [ints, List.map_set]
  rw [e, ← ic_set]
  exact heap_setCell_same W D x.1 _ 3 _ h.h
theorem keeps_of {B D n0 : Nat} {W W' : World} (h : Kept (fun k => k = B ∨ k = D) W W') (hB : B < n0) (hD : D < n0) : KeepsFrom n0 W W' :=
  ⟨h.size, fun k _ hk ho _ => (h.block k (blk_lt ho) (by omega)).trans ho⟩
end Go.Proofs.Ytlcadkhhpnaofaa
