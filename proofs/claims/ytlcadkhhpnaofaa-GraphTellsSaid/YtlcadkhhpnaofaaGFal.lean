/-
  Joints: the numbers that a walk stays within; its memory.
-/
import Derived.Test.YtlcadkhhpnaofaaGW11
namespace Gq
/-- How many were not met. -/
def zc (M : List Nat) : Nat := M.countP (fun t => t == 0)
theorem nv_lt {M : List Nat} {i : Nat} (h : 0 < nv M i) : i < M.length := by
  unfold nv at h
  rcases Nat.lt_or_ge i M.length with h1 | h1
  · exact h1
  · simp [List.getD_eq_getElem?_getD, List.getElem?_eq_none h1] at h
theorem zc_set {M : List Nat} {i t : Nat} (hi : i < M.length) (h : nv M i = 0) (ht : 0 < t) : zc (M.set i t) + 1 = zc M := by
  unfold zc
  have e : M[i] = 0 := by unfold nv at h; simpa [List.getD, hi] using h
  induction M generalizing i with
  | nil => simp at hi
  | cons b M ih =>
    cases i with
    | zero =>
      simp at e
      subst e
      have : ¬ t = 0 := by omega
      simp [this]
    | succ i =>
      simp only [List.set_cons_succ, List.countP_cons]
      have := ih (i := i) (by simpa using hi) (by unfold nv at h ⊢; simpa using h) (by simpa using e)
      omega
theorem zc_none (n : Nat) : zc (List.replicate n 0) = n := by
  unfold zc
  rw [List.countP_replicate]
  rfl
def FB (s s' : FS) : Prop := s'.met.length = s.met.length ∧ zc s'.met ≤ zc s.met ∧ s'.turn + zc s'.met ≤ s.turn + zc s.met ∧ s'.joints.length + zc s'.met ≤ s.joints.length + zc s.met
theorem FB.refl (s : FS) : FB s s := ⟨rfl, Nat.le_refl _, Nat.le_refl _, Nat.le_refl _⟩
theorem FB.trans {a b c : FS} (h : FB a b) (k : FB b c) : FB a c := ⟨k.1.trans h.1, Nat.le_trans k.2.1 h.2.1, Nat.le_trans k.2.2.1 h.2.2.1, Nat.le_trans k.2.2.2 h.2.2.2⟩
theorem fb {R B : Gr} (n : Nat) (hR : ∀ v, ∀ x ∈ row R v, x < n) (hB : ∀ v, ∀ x ∈ row B v, x < n) : ∀ (f v : Nat) (first : Bool) (s : FS), s.met.length = n → v < n → nv s.met v = 0 → FB s (falF R B f v first s).2
  | 0, _, _, s, _, _, _ => FB.refl s
  | f + 1, v, first, s, hs, hv, h => by
    rw [falF_succ]
    have hz := zc_set (t := s.turn + 1) (by rw [hs]; exact hv) h (by omega)
    have h1 : ∀ (l : List Nat) (t : Nat × Nat × FS), t.2.2.met.length = n → (∀ x ∈ l, x < n) → FB t.2.2 (l.foldl (fal1 R B f v) t).2.2 := by
      intro l
      induction l with
      | nil => intro t _ _; exact FB.refl _
      | cons x l ih =>
        intro t ht hl
        rw [List.foldl_cons]
        have h2 : FB t.2.2 (fal1 R B f v t x).2.2 := by
          unfold fal1
          split
          · exact FB.refl _
          · exact fb n hR hB f x false t.2.2 ht (hl x (List.mem_cons_self ..)) (by omega)
        exact h2.trans (ih _ (by rw [h2.1]; exact ht) (fun y hy => hl y (List.mem_cons_of_mem _ hy)))
    have h2 := h1 (row R v ++ row B v) (s.turn + 1, 0, ⟨s.turn + 1, s.met.set v (s.turn + 1), s.joints⟩) (by simpa using hs) (fun x hx => by
      rcases List.mem_append.1 hx with h | h
      · exact hR v x h
      · exact hB v x h)
    obtain ⟨a1, a2, a3, a4⟩ := h2
    generalize (row R v ++ row B v).foldl (fal1 R B f v) (s.turn + 1, 0, ⟨s.turn + 1, s.met.set v (s.turn + 1), s.joints⟩) = r at *
    simp only [List.length_set] at a1 a2 a3 a4
    unfold falE
    simp only
    split
    · refine ⟨a1, by show zc r.2.2.met ≤ _; omega, by show r.2.2.turn + zc r.2.2.met ≤ _; omega, ?_⟩
      show (r.2.2.joints ++ [v]).length + zc r.2.2.met ≤ _
      rw [List.length_append]
      simp only [List.length_cons, List.length_nil]
      omega
    · exact ⟨a1, by omega, by omega, by omega⟩
theorem fb_one {R B : Gr} {n : Nat} (hR : ∀ v, ∀ x ∈ row R v, x < n) (hB : ∀ v, ∀ x ∈ row B v, x < n) (f v : Nat) (t : Nat × Nat × FS) (ht : t.2.2.met.length = n) {x : Nat} (hx : x < n) : FB t.2.2 (fal1 R B f v t x).2.2 ∧ (fal1 R B f v t x).2.1 ≤ t.2.1 + 1 ∧ (fal1 R B f v t x).1 ≤ t.1 := by
  unfold fal1
  split
  · exact ⟨FB.refl _, Nat.le_succ _, Nat.min_le_left _ _⟩
  · refine ⟨fb n hR hB f x false t.2.2 ht hx (by omega), ?_, Nat.min_le_left _ _⟩
    simp only
    split <;> omega
theorem fb_list {R B : Gr} {n : Nat} (hR : ∀ v, ∀ x ∈ row R v, x < n) (hB : ∀ v, ∀ x ∈ row B v, x < n) (f v : Nat) (l : List Nat) (t : Nat × Nat × FS) (ht : t.2.2.met.length = n) (hl : ∀ x ∈ l, x < n) : FB t.2.2 (l.foldl (fal1 R B f v) t).2.2 ∧ (l.foldl (fal1 R B f v) t).2.1 ≤ t.2.1 + l.length ∧ (l.foldl (fal1 R B f v) t).1 ≤ t.1 := by
  induction l generalizing t with
  | nil => exact ⟨FB.refl _, Nat.le_refl _, Nat.le_refl _⟩
  | cons x l ih =>
    rw [List.foldl_cons]
    obtain ⟨h1, h2, h3⟩ := fb_one hR hB f v t ht (hl x (List.mem_cons_self ..))
    obtain ⟨h4, h5, h6⟩ := ih _ (by rw [h1.1]; exact ht) (fun y hy => hl y (List.mem_cons_of_mem _ hy))
    refine ⟨h1.trans h4, ?_, Nat.le_trans h6 h3⟩
    simp only [List.length_cons]
    omega
/-- Times are no greater than the last one. -/
def FT (s : FS) : Prop := ∀ x ∈ s.met, x ≤ 2048
theorem nv_le {s : FS} (h : FT s) (i : Nat) : nv s.met i ≤ 2048 := by
  unfold nv
  rcases Nat.lt_or_ge i s.met.length with h1 | h1
  · have := h s.met[i] (by simp)
    simpa [List.getD, h1] using this
  · simp [List.getD_eq_getElem?_getD, List.getElem?_eq_none h1]
theorem falF_le {R B : Gr} : ∀ (f v : Nat) (first : Bool) (s : FS), (falF R B f v first s).1 ≤ s.turn + 1
  | 0, _, _, _ => Nat.zero_le _
  | f + 1, v, first, s => by
    rw [falF_succ]
    have h1 : ∀ (l : List Nat) (t : Nat × Nat × FS), (l.foldl (fal1 R B f v) t).1 ≤ t.1 := by
      intro l
      induction l with
      | nil => intro t; exact Nat.le_refl _
      | cons x l ih =>
        intro t
        rw [List.foldl_cons]
        refine Nat.le_trans (ih _) ?_
        unfold fal1
        split <;> exact Nat.min_le_left _ _
    exact h1 _ _
end Gq
namespace Go.Proofs.Ytlcadkhhpnaofaa
set_option maxRecDepth 100000
open Go Go.RowKit Gq

/-- The walk's memory, from w0 on, where the joints' list was v0; q: from where new lists lie. -/
structure FJ (w0 : World) (pt D pj : Nat) (v0 : Value) (q : Nat) (s : FS) (v : Value) (wr : World) : Prop where
  k : Kept (fun k => k = pt ∨ k = D ∨ k = pj ∨ v0.ownBlock = some k) w0 wr
  t : wr.heap[pt]? = some (.cells #[.int .i64 (s.turn : Int)] 3 (0, 0))
  m : wr.heap[D]? = some (.cells (ic (ints s.met)) 3 (0, 0))
  j : wr.heap[pj]? = some (.cells #[v] 34 (0, 0))
  r : RowAt wr v s.joints
  o : ∀ k, v.ownBlock = some k → v0.ownBlock = some k ∨ q ≤ k
theorem FJ.next {w0 w1 w2 : World} {pt D pj q q' : Nat} {v0 v v' : Value} {s s' : FS} (h : FJ w0 pt D pj v0 q s v w1) (hq : w0.heap.size ≤ q) (hq1 : q ≤ q') (h' : FJ w1 pt D pj v q' s' v' w2) : FJ w0 pt D pj v0 q s' v' w2 := by
  refine ⟨h.k.trans h'.k ?_, h'.t, h'.m, h'.j, h'.r, fun k hk => ?_⟩
  · rintro i hi (e | e | e | e)
    · exact .inl e
    · exact .inr (.inl e)
    · exact .inr (.inr (.inl e))
    · rcases h.o i e with h1 | h1
      · exact .inr (.inr (.inr h1))
      · omega
  · rcases h'.o k hk with h1 | h1
    · exact h.o k h1
    · exact .inr (by omega)
theorem FJ.still {w0 w1 w2 : World} {pt D pj q : Nat} {v0 v : Value} {s : FS} (h : FJ w0 pt D pj v0 q s v w1) (hk : Still w1 w2) : FJ w0 pt D pj v0 q s v w2 :=
  ⟨h.k.trans hk (fun _ _ h => h.elim), (hk.block _ (blk_lt h.t) id).trans h.t, (hk.block _ (blk_lt h.m) id).trans h.m, (hk.block _ (blk_lt h.j) id).trans h.j, h.r.still hk, h.o⟩
/-- A new turn. -/
theorem FJ.turn {w0 w1 : World} {pt D pj q x : Nat} {v0 v : Value} {s : FS} (hn : pt ≠ D ∧ pt ≠ pj) (ho : ∀ k, v.ownBlock = some k → k ≠ pt) (h : FJ w0 pt D pj v0 q s v w1) : FJ w0 pt D pj v0 q ⟨x, s.met, s.joints⟩ v (w1.setCell ⟨pt, 0, none⟩ (.int .i64 (x : Int))) := by
  have hk : Kept (fun k => k = pt) w1 (w1.setCell ⟨pt, 0, none⟩ (.int .i64 (x : Int))) := (Kept.refl (fun k => k = pt) w1).setCell (p := ⟨pt, 0, none⟩) (.inl rfl) _
  refine ⟨h.k.trans hk (fun _ _ h => .inl h), ?_, (hk.block _ (blk_lt h.m) (fun e => hn.1 e.symm)).trans h.m, (hk.block _ (blk_lt h.j) (fun e => hn.2 e.symm)).trans h.j, h.r.kept hk (fun g hg => ho g hg), h.o⟩
  have := heap_setCell_same w1 pt 0 _ 3 (.int .i64 (x : Int)) h.t
  simpa using this
/-- A node is met. -/
theorem FJ.meet {w0 w1 : World} {pt D pj q i x : Nat} {v0 v : Value} {s : FS} (hn : D ≠ pt ∧ D ≠ pj) (ho : ∀ k, v.ownBlock = some k → k ≠ D) (h : FJ w0 pt D pj v0 q s v w1) : FJ w0 pt D pj v0 q ⟨s.turn, s.met.set i x, s.joints⟩ v (w1.setCell ⟨D, i, none⟩ (.int .i64 (x : Int))) := by
  have hk : Kept (fun k => k = D) w1 (w1.setCell ⟨D, i, none⟩ (.int .i64 (x : Int))) := (Kept.refl (fun k => k = D) w1).setCell (p := ⟨D, i, none⟩) (.inl rfl) _
  refine ⟨h.k.trans hk (fun _ _ h => .inr (.inl h)), (hk.block _ (blk_lt h.t) (fun e => hn.1 e.symm)).trans h.t, ?_, (hk.block _ (blk_lt h.j) (fun e => hn.2 e.symm)).trans h.j, h.r.kept hk (fun g hg => ho g hg), h.o⟩
  have e : ints (s.met.set i x) = (ints s.met).set i (x : Int) := by simp [ints, List.map_set]
  rw [e, ← ic_set]
  exact heap_setCell_same w1 D i _ 3 _ h.m
/-- A joint is found. -/
theorem FJ.found {w0 w1 w2 : World} {pt D pj q x g2 cap2 : Nat} {v0 v : Value} {s : FS} {o : Obj} (hn : pj ≠ pt ∧ pj ≠ D) (hl : pt < q ∧ D < q ∧ pj < q) (ho : ∀ k, v.ownBlock = some k → k ≠ pt ∧ k ≠ D ∧ k ≠ pj) (hq : q ≤ w1.heap.size) (hq0 : w0.heap.size ≤ q) (h : FJ w0 pt D pj v0 q s v w1)
    (hw : w2.ownsRow 0 3 1 (.slice (some ⟨g2, 0, none⟩) (s.joints.length + 1) cap2) (s.joints.length + 1) (nis s.joints ++ [.int .i64 (x : Int)])) (hgr : (w1.alloc o).grownBy w2 v.ownBlock) (hat : v.ownBlock = some g2 ∨ g2 = w1.heap.size + 1) :
    w2.cell? ⟨pj, 0, none⟩ = some v ∧ w2.frozen? ⟨pj, 0, none⟩ = false ∧ FJ w0 pt D pj v0 q ⟨s.turn, s.met, s.joints ++ [x]⟩ (.slice (some ⟨g2, 0, none⟩) (s.joints.length + 1) cap2) (w2.setCell ⟨pj, 0, none⟩ (.slice (some ⟨g2, 0, none⟩) (s.joints.length + 1) cap2)) := by
  have hk1 : Kept (fun k => v.ownBlock = some k) w1 w2 := ((Kept.refl _ w1).alloc o).trans ((Kept.refl (fun k => v.ownBlock = some k) (w1.alloc o)).grown hgr (fun k h => .inl h)) (fun _ _ h => h)
  have hp2 : w2.heap[pj]? = some (.cells #[v] 34 (0, 0)) := (hk1.block _ (blk_lt h.j) (fun e => (ho _ e).2.2 rfl)).trans h.j
  have hk2 : Kept (fun k => k = pj) w2 (w2.setCell ⟨pj, 0, none⟩ (.slice (some ⟨g2, 0, none⟩) (s.joints.length + 1) cap2)) := (Kept.refl (fun k => k = pj) w2).setCell (p := ⟨pj, 0, none⟩) (.inl rfl) _
  have hg : g2 ≠ pj := by
    rcases hat with e | e
    · exact (ho _ e).2.2
    · omega
  refine ⟨by rw [blk_cell hp2]; rfl, blk_free hp2 0, (h.k.trans hk1 ?_).trans hk2 (fun _ _ h => .inr (.inr (.inl h))), (hk2.block _ (Nat.lt_of_lt_of_le (blk_lt h.t) hk1.size) (fun e => hn.1 e.symm)).trans ((hk1.block _ (blk_lt h.t) (fun e => (ho _ e).1 rfl)).trans h.t), (hk2.block _ (Nat.lt_of_lt_of_le (blk_lt h.m) hk1.size) (fun e => hn.2 e.symm)).trans ((hk1.block _ (blk_lt h.m) (fun e => (ho _ e).2.1 rfl)).trans h.m), ?_, ?_, fun k hk => ?_⟩
  · intro i hi e
    rcases h.o i e with h1 | h1
    · exact .inr (.inr (.inr h1))
    · omega
  · have := heap_setCell_same w2 pj 0 #[v] 34 (.slice (some ⟨g2, 0, none⟩) (s.joints.length + 1) cap2) hp2
    simpa using this
  · have : RowAt w2 (.slice (some ⟨g2, 0, none⟩) (s.joints.length + 1) cap2) (s.joints ++ [x]) := by
      show World.ownsRow _ _ _ _ _ _ _
      rw [nis_append, List.length_append]
      exact hw
    exact this.kept hk2 (fun g h e => by
      have h : some g2 = some g := h
      have : g2 = g := by simpa using h
      omega)
  · have hk : some g2 = some k := hk
    obtain rfl : g2 = k := by simpa using hk
    rcases hat with e | e
    · exact h.o _ e
    · exact .inr (by omega)
end Go.Proofs.Ytlcadkhhpnaofaa
