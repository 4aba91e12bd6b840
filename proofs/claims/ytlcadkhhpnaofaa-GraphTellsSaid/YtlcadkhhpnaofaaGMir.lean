/-
  What the program's own ways come to, as lists: the graph back, visits in their order, strong parts, joints.
-/
import Derived.Test.YtlcadkhhpnaofaaGBfs
namespace Gq

/-! The graph back -/
def pushE (B : Gr) (b a : Nat) : Gr := B.set b (row B b ++ [a])
def bkN (R : Gr) (B : Gr) (a : Nat) : Gr := (row R a).foldl (fun B b => pushE B b a) B
def bkF (R : Gr) : Gr := (List.range R.length).foldl (bkN R) (none_ R.length)
theorem pushE_length (B : Gr) (b a : Nat) : (pushE B b a).length = B.length := by simp [pushE]
theorem row_pushE {B : Gr} {b a : Nat} (h : b < B.length) (i : Nat) : row (pushE B b a) i = if i = b then row B b ++ [a] else row B i := row_set h
theorem pushes_length (l : List Nat) (a : Nat) (B : Gr) : (l.foldl (fun B b => pushE B b a) B).length = B.length := by
  induction l generalizing B with
  | nil => rfl
  | cons x l ih => rw [List.foldl_cons, ih, pushE_length]
theorem row_pushes {l : List Nat} (a : Nat) {B : Gr} (hl : ∀ x ∈ l, x < B.length) (hn : l.Nodup) (i : Nat) : row (l.foldl (fun B b => pushE B b a) B) i = if i ∈ l then row B i ++ [a] else row B i := by
  induction l generalizing B with
  | nil => simp
  | cons x l ih =>
    obtain ⟨h1, h2⟩ := List.nodup_cons.1 hn
    have hx := hl x (List.mem_cons_self ..)
    rw [List.foldl_cons, ih (fun y hy => by rw [pushE_length]; exact hl y (List.mem_cons_of_mem _ hy)) h2, row_pushE hx]
    by_cases e : i = x
    · subst e; simp [h1]
    · simp [e]
theorem bkN_length (R B : Gr) (a : Nat) : (bkN R B a).length = B.length := pushes_length ..
/-- Behind so many nodes. -/
def bkK (R : Gr) (k : Nat) : Gr := (List.range k).foldl (bkN R) (none_ R.length)
theorem bkK_length (R : Gr) (k : Nat) : (bkK R k).length = R.length := by
  unfold bkK
  have : ∀ (l : List Nat) (B : Gr), (l.foldl (bkN R) B).length = B.length := by
    intro l
    induction l with
    | nil => intro B; rfl
    | cons x l ih => intro B; rw [List.foldl_cons, ih, bkN_length]
  rw [this]
  simp [none_]
theorem bkK_succ (R : Gr) (k : Nat) : bkK R (k + 1) = bkN R (bkK R k) k := by simp [bkK, List.range_succ, List.foldl_append]
theorem bkF_eq (R : Gr) : bkF R = bkK R R.length := rfl
theorem row_bkK {R : Gr} (hO : Ok R) (k : Nat) (i : Nat) : row (bkK R k) i = (List.range k).filter (fun a => decide (i ∈ row R a)) := by
  induction k with
  | zero => show row (none_ _) i = _; rw [row_none]; rfl
  | succ k ih =>
    rw [bkK_succ]
    unfold bkN
    rw [row_pushes k (fun x hx => by rw [bkK_length]; exact hO.node k x hx) ((hO.rise k).imp (fun h => Nat.ne_of_lt h)), List.range_succ, List.filter_append, ← ih]
    by_cases h : i ∈ row R k
    · rw [if_pos h, List.filter_cons_of_pos (by simpa using h)]; rfl
    · rw [if_neg h, List.filter_cons_of_neg (by simpa using h)]; simp
theorem bkF_length (R : Gr) : (bkF R).length = R.length := bkK_length ..
theorem row_bkF {R : Gr} (hO : Ok R) (i : Nat) : row (bkF R) i = (List.range R.length).filter (fun a => decide (i ∈ row R a)) := row_bkK hO _ i
theorem mem_bkF {R : Gr} (hO : Ok R) {i a : Nat} : a ∈ row (bkF R) i ↔ i ∈ row R a := by
  rw [row_bkF hO, List.mem_filter]
  simp
  exact fun h => row_lt h
theorem bkF_ok {R : Gr} (hO : Ok R) : Ok (bkF R) := by
  refine ⟨by rw [bkF_length]; exact hO.size, fun i => ?_, fun i j hj => ?_, fun i hi => ?_⟩
  · rw [row_bkF hO]
    exact List.Pairwise.filter _ List.pairwise_lt_range
  · rw [bkF_length]
    exact row_lt ((mem_bkF hO).1 hj)
  · exact hO.self i ((mem_bkF hO).1 hi)
theorem rise_ext : ∀ {l m : List Nat}, l.Pairwise (· < ·) → m.Pairwise (· < ·) → (∀ x, x ∈ l ↔ x ∈ m) → l = m
  | [], [], _, _, _ => rfl
  | [], y :: m, _, _, h => absurd ((h y).2 (List.mem_cons_self ..)) (by simp)
  | x :: l, [], _, _, h => absurd ((h x).1 (List.mem_cons_self ..)) (by simp)
  | x :: l, y :: m, hl, hm, h => by
    obtain ⟨h1, h2⟩ := List.pairwise_cons.1 hl
    obtain ⟨h3, h4⟩ := List.pairwise_cons.1 hm
    have e : x = y := by
      rcases List.mem_cons.1 ((h x).1 (List.mem_cons_self ..)) with e | e
      · exact e
      · rcases List.mem_cons.1 ((h y).2 (List.mem_cons_self ..)) with e2 | e2
        · exact e2.symm
        · have := h3 x e; have := h1 y e2; omega
    subst e
    rw [rise_ext h2 h4 (fun z => ?_)]
    constructor
    · intro hz
      rcases List.mem_cons.1 ((h z).1 (List.mem_cons_of_mem _ hz)) with e | e
      · have := h1 z hz; omega
      · exact e
    · intro hz
      rcases List.mem_cons.1 ((h z).2 (List.mem_cons_of_mem _ hz)) with e | e
      · have := h3 z hz; omega
      · exact e
theorem row_bkbk {R : Gr} (hO : Ok R) (i : Nat) : row (bkF (bkF R)) i = row R i :=
  rise_ext ((bkF_ok (bkF_ok hO)).rise i) (hO.rise i) (fun x => by rw [mem_bkF (bkF_ok hO), mem_bkF hO])

/-! Visits -/
def visF (R : Gr) : Nat → Nat → Mt × List Nat → Mt × List Nat
  | 0, _, s => s
  | f + 1, v, s =>
    let s1 := (row R v).foldl (fun s to => if mtb s.1 to then s else visF R f to s) (s.1.set v true, s.2)
    (s1.1, s1.2 ++ [v])
def vis1 (R : Gr) (f : Nat) (s : Mt × List Nat) (to : Nat) : Mt × List Nat := if mtb s.1 to then s else visF R f to s
theorem visF_succ (R : Gr) (f v : Nat) (s : Mt × List Nat) : visF R (f + 1) v s = (((row R v).foldl (vis1 R f) (s.1.set v true, s.2)).1, ((row R v).foldl (vis1 R f) (s.1.set v true, s.2)).2 ++ [v]) := rfl
/-- How a visit leaves the numbers of those met. -/
def VisB (s s' : Mt × List Nat) : Prop := s'.1.length = s.1.length ∧ cnt s'.1 ≤ cnt s.1 ∧ s'.2.length + cnt s'.1 ≤ s.2.length + cnt s.1
theorem VisB.refl (s : Mt × List Nat) : VisB s s := ⟨rfl, Nat.le_refl _, Nat.le_refl _⟩
theorem VisB.trans {a b c : Mt × List Nat} (h : VisB a b) (k : VisB b c) : VisB a c := ⟨k.1.trans h.1, Nat.le_trans k.2.1 h.2.1, Nat.le_trans k.2.2 h.2.2⟩
theorem visB {R : Gr} (hO : Ok R) : ∀ (f v : Nat) (s : Mt × List Nat), s.1.length = R.length → v < s.1.length → mtb s.1 v = false → VisB s (visF R f v s)
  | 0, _, s, _, _, _ => VisB.refl s
  | f + 1, v, s, hs, hv, h => by
    rw [visF_succ]
    have hc := cnt_set hv h
    have h1 : ∀ (l : List Nat) (t : Mt × List Nat), t.1.length = R.length → (∀ x ∈ l, x < R.length) → VisB t (l.foldl (vis1 R f) t) := by
      intro l
      induction l with
      | nil => intro t _ _; exact VisB.refl _
      | cons x l ih =>
        intro t ht hl
        rw [List.foldl_cons]
        have h2 : VisB t (vis1 R f t x) := by
          unfold vis1
          split
          · exact VisB.refl _
          · rename_i hx
            exact visB hO f x t ht (by rw [ht]; exact hl x (List.mem_cons_self ..)) (by simpa using hx)
        exact h2.trans (ih _ (by rw [h2.1]; exact ht) (fun y hy => hl y (List.mem_cons_of_mem _ hy)))
    have h2 := h1 (row R v) (s.1.set v true, s.2) (by simpa using hs) (hO.node v)
    refine ⟨by rw [h2.1]; simp, ?_, ?_⟩
    · have := h2.2.1; simp only at *; omega
    · have := h2.2.2; simp only [List.length_append, List.length_cons, List.length_nil] at *; omega
theorem visB_one {R : Gr} (hO : Ok R) (f : Nat) (t : Mt × List Nat) (ht : t.1.length = R.length) {x : Nat} (hx : x < R.length) : VisB t (vis1 R f t x) := by
  unfold vis1
  split
  · exact VisB.refl _
  · rename_i h
    exact visB hO f x t ht (by rw [ht]; exact hx) (by simpa using h)
theorem visB_list {R : Gr} (hO : Ok R) (f : Nat) (l : List Nat) (t : Mt × List Nat) (ht : t.1.length = R.length) (hl : ∀ x ∈ l, x < R.length) : VisB t (l.foldl (vis1 R f) t) := by
  induction l generalizing t with
  | nil => exact VisB.refl _
  | cons x l ih =>
    rw [List.foldl_cons]
    have h2 := visB_one hO f t ht (hl x (List.mem_cons_self ..))
    exact h2.trans (ih _ (by rw [h2.1]; exact ht) (fun y hy => hl y (List.mem_cons_of_mem _ hy)))
def finK (R : Gr) (k : Nat) : Mt × List Nat := (List.range k).foldl (vis1 R R.length) (List.replicate R.length false, [])
def finF (R : Gr) : List Nat := (finK R R.length).2
theorem finK_succ (R : Gr) (k : Nat) : finK R (k + 1) = vis1 R R.length (finK R k) k := by simp [finK, List.range_succ, List.foldl_append]

/-! Strong parts -/
def hdL (T : List (Nat × Nat)) (h : Nat) (H : List Nat) : List Nat := T.foldl (fun H p => H.set p.1 h) H
theorem hdL_length (T : List (Nat × Nat)) (h : Nat) (H : List Nat) : (hdL T h H).length = H.length := by
  unfold hdL
  induction T generalizing H with
  | nil => rfl
  | cons p T ih => rw [List.foldl_cons, ih]; simp
theorem hdL_snoc (T : List (Nat × Nat)) (p : Nat × Nat) (h : Nat) (H : List Nat) : hdL (T ++ [p]) h H = (hdL T h H).set p.1 h := by simp [hdL, List.foldl_append]
def strN (B : Gr) (s : Mt × List Nat) (h : Nat) : Mt × List Nat := if mtb s.1 h then s else (metN B s.1 h, hdL (tells B s.1 h) h s.2)
def num1 (s : List Nat × List Nat) (h : Nat) : List Nat × List Nat := ((if h ∈ s.1 then s.1 else s.1 ++ [h]), s.2 ++ [(if h ∈ s.1 then s.1 else s.1 ++ [h]).idxOf h])
def numF (H : List Nat) : List Nat := (H.foldl num1 ([], [])).2
def strF (R : Gr) : List Nat := numF ((finF R).reverse.foldl (strN (bkF R)) (List.replicate R.length false, List.replicate R.length 0)).2

/-! Joints -/
structure FS where
  turn : Nat
  met : List Nat
  joints : List Nat
def nv (M : List Nat) (i : Nat) : Nat := M.getD i 0
def falF (R B : Gr) : Nat → Nat → Bool → FS → Nat × FS
  | 0, _, _, s => (0, s)
  | f + 1, v, first, s =>
    let r := (row R v ++ row B v).foldl (fun (x : Nat × Nat × FS) to =>
      if 0 < nv x.2.2.met to then (min x.1 (nv x.2.2.met to), x.2.1, x.2.2)
      else (min x.1 (falF R B f to false x.2.2).1, if nv (falF R B f to false x.2.2).2.met v ≤ (falF R B f to false x.2.2).1 then x.2.1 + 1 else x.2.1, (falF R B f to false x.2.2).2))
      (s.turn + 1, 0, ⟨s.turn + 1, s.met.set v (s.turn + 1), s.joints⟩)
    (r.1, if 1 < r.2.1 ∨ (r.2.1 = 1 ∧ first = false) then ⟨r.2.2.turn, r.2.2.met, r.2.2.joints ++ [v]⟩ else r.2.2)
def fal1 (R B : Gr) (f v : Nat) (x : Nat × Nat × FS) (to : Nat) : Nat × Nat × FS :=
  if 0 < nv x.2.2.met to then (min x.1 (nv x.2.2.met to), x.2.1, x.2.2)
  else (min x.1 (falF R B f to false x.2.2).1, if nv (falF R B f to false x.2.2).2.met v ≤ (falF R B f to false x.2.2).1 then x.2.1 + 1 else x.2.1, (falF R B f to false x.2.2).2)
def falE (r : Nat × Nat × FS) (v : Nat) (first : Bool) : Nat × FS := (r.1, if 1 < r.2.1 ∨ (r.2.1 = 1 ∧ first = false) then ⟨r.2.2.turn, r.2.2.met, r.2.2.joints ++ [v]⟩ else r.2.2)
theorem falF_succ (R B : Gr) (f v : Nat) (first : Bool) (s : FS) : falF R B (f + 1) v first s =
    falE ((row R v ++ row B v).foldl (fal1 R B f v) (s.turn + 1, 0, ⟨s.turn + 1, s.met.set v (s.turn + 1), s.joints⟩)) v first := rfl
def joiK (R : Gr) (k : Nat) : FS := (List.range k).foldl (fun s v => if nv s.met v = 0 then (falF R (bkF R) R.length v true s).2 else s) ⟨0, List.replicate R.length 0, []⟩
def joiF (R : Gr) : List Nat := (joiK R R.length).joints.mergeSort (fun a b => decide (a ≤ b))

/-! The chapter's graph -/
def someG : Gr := [[1], [2], [0, 3], [4], [], []]
end Gq
