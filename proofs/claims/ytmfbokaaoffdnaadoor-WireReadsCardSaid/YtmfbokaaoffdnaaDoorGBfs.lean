/-
  A search by levels, as lists: what it tells, and how far that is.
-/
import Derived.Test.YtmfbokaaoffdnaaDoorGPure
namespace Gq

abbrev Mt := List Bool
def mtb (M : Mt) (i : Nat) : Bool := M.getD i false
theorem mt_set {M : Mt} {i : Nat} (h : i < M.length) (j : Nat) : mtb (M.set i true) j = (decide (j = i) || mtb M j) := by
  unfold mtb
  simp only [List.getD_eq_getElem?_getD, List.getElem?_set]
  by_cases e : i = j
  · subst e; simp [h]
  · have e2 : ¬ j = i := fun h => e h.symm
    rw [if_neg e]; simp [e2]
theorem mt_lt {M : Mt} {i : Nat} (h : mtb M i = true) : i < M.length := by
  unfold mtb at h
  rcases Nat.lt_or_ge i M.length with h1 | h1
  · exact h1
  · simp [List.getD_eq_getElem?_getD, List.getElem?_eq_none h1] at h
theorem mt_none (n i : Nat) : mtb (List.replicate n false) i = false := by
  unfold mtb
  simp only [List.getD_eq_getElem?_getD, List.getElem?_replicate]
  split <;> rfl
/-- How many are not met. -/
def cnt (M : Mt) : Nat := M.countP (fun b => !b)
theorem cnt_set {M : Mt} {i : Nat} (hi : i < M.length) (h : mtb M i = false) : cnt (M.set i true) + 1 = cnt M := by
  unfold cnt
  have e : M[i] = false := by unfold mtb at h; simpa [List.getD, hi] using h
  induction M generalizing i with
  | nil => simp at hi
  | cons b M ih =>
    cases i with
    | zero => simp at e; subst e; simp
    | succ i =>
      simp only [List.set_cons_succ, List.countP_cons]
      have := ih (i := i) (by simpa using hi) (by unfold mtb at h ⊢; simpa using h) (by simpa using e)
      omega
theorem cnt_le (M : Mt) : cnt M ≤ M.length := List.countP_le_length

def exp1 (s : Mt × List Nat) (to : Nat) : Mt × List Nat := if mtb s.1 to then s else (s.1.set to true, s.2 ++ [to])
def expN (R : Gr) (s : Mt × List Nat) (v : Nat) : Mt × List Nat := (row R v).foldl exp1 s
def expF (R : Gr) (M : Mt) (F : List Nat) : Mt × List Nat := F.foldl (expN R) (M, [])

/-- What became of a list of nodes that are looked at. -/
structure Exp (L : List Nat) (s s' : Mt × List Nat) (N : List Nat) : Prop where
  nxt : s'.2 = s.2 ++ N
  len : s'.1.length = s.1.length
  met : ∀ i, mtb s'.1 i = (mtb s.1 i || decide (i ∈ N))
  nd : N.Nodup
  new : ∀ i ∈ N, mtb s.1 i = false ∧ i ∈ L
  all : ∀ i ∈ L, mtb s'.1 i = true
  cnt : cnt s'.1 + N.length = cnt s.1
theorem exp_all (L : List Nat) (s : Mt × List Nat) (hL : ∀ i ∈ L, i < s.1.length) : ∃ N, Exp L s (L.foldl exp1 s) N := by
  induction L generalizing s with
  | nil => exact ⟨[], by simp, rfl, by simp, by simp, by simp, by simp, by simp⟩
  | cons x L ih =>
    rw [List.foldl_cons]
    by_cases h : mtb s.1 x = true
    · have e : exp1 s x = s := by unfold exp1; rw [if_pos h]
      rw [e]
      obtain ⟨N, hN⟩ := ih s (fun i hi => hL i (List.mem_cons_of_mem _ hi))
      refine ⟨N, hN.nxt, hN.len, hN.met, hN.nd, fun i hi => ⟨(hN.new i hi).1, List.mem_cons_of_mem _ (hN.new i hi).2⟩, fun i hi => ?_, hN.cnt⟩
      rcases List.mem_cons.1 hi with rfl | hi
      · rw [hN.met, h]; rfl
      · exact hN.all i hi
    · have h : mtb s.1 x = false := by simpa using h
      have hx := hL x (List.mem_cons_self ..)
      have e : exp1 s x = (s.1.set x true, s.2 ++ [x]) := by unfold exp1; rw [if_neg (by simp [h])]
      rw [e]
      obtain ⟨N, hN⟩ := ih (s.1.set x true, s.2 ++ [x]) (fun i hi => by simpa using hL i (List.mem_cons_of_mem _ hi))
      have hm := fun i => hN.met i
      have hxN : x ∉ N := fun hx2 => by
        have := (hN.new x hx2).1
        rw [mt_set hx] at this
        simp at this
      refine ⟨x :: N, by rw [hN.nxt]; simp, by rw [hN.len]; simp, fun i => ?_, List.nodup_cons.2 ⟨hxN, hN.nd⟩, fun i hi => ?_, fun i hi => ?_, ?_⟩
      · rw [hm, mt_set hx]
        by_cases e : i = x <;> simp [e]
      · rcases List.mem_cons.1 hi with rfl | hi
        · exact ⟨h, List.mem_cons_self ..⟩
        · have := hN.new i hi
          refine ⟨?_, List.mem_cons_of_mem _ this.2⟩
          have h2 := this.1
          rw [mt_set hx] at h2
          simp at h2
          exact h2.2
      · rcases List.mem_cons.1 hi with rfl | hi
        · rw [hm, mt_set hx]; simp
        · exact hN.all i hi
      · have := hN.cnt
        have h2 := cnt_set hx h
        simp only [List.length_cons] at *
        omega
theorem expF_flat (R : Gr) (F : List Nat) (s : Mt × List Nat) : F.foldl (expN R) s = (F.flatMap (row R)).foldl exp1 s := by
  induction F generalizing s with
  | nil => rfl
  | cons v F ih => rw [List.foldl_cons, ih, List.flatMap_cons, List.foldl_append]; rfl
theorem expF_all {R : Gr} (hO : Ok R) (F : List Nat) (M : Mt) (hM : M.length = R.length) : ∃ N, Exp (F.flatMap (row R)) (M, []) (expF R M F) N := by
  unfold expF
  rw [expF_flat]
  refine exp_all _ _ (fun i hi => ?_)
  obtain ⟨v, _, h⟩ := List.mem_flatMap.1 hi
  show i < M.length
  rw [hM]
  exact hO.node v i h

def bfs (R : Gr) : Nat → Mt → List Nat → Nat → List (Nat × Nat) × Mt
  | 0, M, _, _ => ([], M)
  | f + 1, M, F, far => if F = [] then ([], M) else
    let r := bfs R f (expF R M F).1 (expF R M F).2 (far + 1)
    (F.map (fun v => (v, far)) ++ r.1, r.2)
theorem bfs_nil (R : Gr) (f : Nat) (M : Mt) (far : Nat) : bfs R f M [] far = ([], M) := by cases f <;> simp [bfs]
theorem bfs_succ (R : Gr) (f : Nat) (M : Mt) {F : List Nat} (h : F ≠ []) (far : Nat) :
    bfs R (f + 1) M F far = (F.map (fun v => (v, far)) ++ (bfs R f (expF R M F).1 (expF R M F).2 (far + 1)).1, (bfs R f (expF R M F).1 (expF R M F).2 (far + 1)).2) := by
  simp [bfs, h]

/-- Between two levels: T was told, F comes next. -/
structure Lv (R : Gr) (M0 : Mt) (a : Nat) (T : List (Nat × Nat)) (F : List Nat) (M : Mt) (far : Nat) : Prop where
  len : M.length = R.length
  met : ∀ i, mtb M i = true ↔ mtb M0 i = true ∨ i ∈ T.map (·.1) ∨ i ∈ F
  nd : (T.map (·.1) ++ F).Nodup
  new : ∀ i ∈ T.map (·.1) ++ F, mtb M0 i = false ∧ i < R.length
  lt : ∀ p ∈ T, p.2 < far
  out : ∀ p ∈ T, ∀ c ∈ row R p.1, mtb M0 c = true ∨ (∃ d, (c, d) ∈ T ∧ d ≤ p.2 + 1) ∨ (c ∈ F ∧ far ≤ p.2 + 1)
  pred : ∀ p ∈ T, (p.1 = a ∧ p.2 = 0) ∨ (1 ≤ p.2 ∧ ∃ b, (b, p.2 - 1) ∈ T ∧ p.1 ∈ row R b)
  predF : ∀ c ∈ F, (c = a ∧ far = 0) ∨ (1 ≤ far ∧ ∃ b, (b, far - 1) ∈ T ∧ c ∈ row R b)
  has : (a, 0) ∈ T ∨ (far = 0 ∧ a ∈ F)

theorem Lv.first {R : Gr} {M0 : Mt} {a : Nat} (ha : a < R.length) (hM : M0.length = R.length) (h : mtb M0 a = false) : Lv R M0 a [] [a] (M0.set a true) 0 := by
  refine ⟨by simp [hM], fun i => ?_, by simp, fun i hi => ?_, by simp, by simp, by simp, fun c hc => ?_, by simp⟩
  · rw [mt_set (by omega)]
    simp
    constructor
    · rintro (h | h)
      · exact .inr h
      · exact .inl h
    · rintro (h | h)
      · exact .inr h
      · exact .inl h
  · simp at hi
    subst hi
    exact ⟨h, ha⟩
  · simp at hc
    exact .inl ⟨hc, rfl⟩

theorem Lv.next {R : Gr} (hO : Ok R) {M0 : Mt} {a : Nat} {T : List (Nat × Nat)} {F : List Nat} {M : Mt} {far : Nat} (h : Lv R M0 a T F M far) :
    Lv R M0 a (T ++ F.map (fun v => (v, far))) (expF R M F).2 (expF R M F).1 (far + 1) := by
  obtain ⟨N, hN⟩ := expF_all hO F M h.len
  have hn : (expF R M F).2 = N := by rw [hN.nxt]; simp
  have hmap : (T ++ F.map (fun v => (v, far))).map (·.1) = T.map (·.1) ++ F := by simp [List.map_append, Function.comp_def]
  have hNM : ∀ i ∈ N, mtb M i = false := fun i hi => (hN.new i hi).1
  have hNr : ∀ i ∈ N, ∃ v ∈ F, i ∈ row R v := fun i hi => List.mem_flatMap.1 (hN.new i hi).2
  refine ⟨by rw [hN.len]; exact h.len, fun i => ?_, ?_, fun i hi => ?_, fun p hp => ?_, fun p hp c hc => ?_, fun p hp => ?_, fun c hc => ?_, ?_⟩
  · rw [hn, hN.met, hmap]
    simp only [Bool.or_eq_true, decide_eq_true_eq, List.mem_append]
    rw [h.met i]
    constructor
    · rintro ((h | h | h) | h)
      · exact .inl h
      · exact .inr (.inl (.inl h))
      · exact .inr (.inl (.inr h))
      · exact .inr (.inr h)
    · rintro (h | (h | h) | h)
      · exact .inl (.inl h)
      · exact .inl (.inr (.inl h))
      · exact .inl (.inr (.inr h))
      · exact .inr h
  · rw [hn, hmap, List.nodup_append]
    refine ⟨h.nd, hN.nd, fun x hx y hy e => ?_⟩
    subst e
    have h1 := hNM x hy
    have h2 := (h.met x).2 (.inr (List.mem_append.1 hx))
    rw [h1] at h2
    cases h2
  · rw [hn, hmap] at hi
    rcases List.mem_append.1 hi with h1 | h1
    · exact h.new i h1
    · refine ⟨?_, ?_⟩
      · have h2 := hNM i h1
        cases h3 : mtb M0 i with
        | false => rfl
        | true =>
          rw [(h.met i).2 (.inl h3)] at h2
          cases h2
      · obtain ⟨v, _, hv⟩ := hNr i h1
        exact hO.node v i hv
  · rcases List.mem_append.1 hp with h1 | h1
    · have := h.lt p h1; omega
    · obtain ⟨v, _, rfl⟩ := List.mem_map.1 h1
      exact Nat.lt_succ_self _
  · rw [hn]
    rcases List.mem_append.1 hp with h1 | h1
    · rcases h.out p h1 c hc with h2 | ⟨d, h2, h3⟩ | ⟨h2, h3⟩
      · exact .inl h2
      · exact .inr (.inl ⟨d, List.mem_append.2 (.inl h2), h3⟩)
      · exact .inr (.inl ⟨far, List.mem_append.2 (.inr (List.mem_map.2 ⟨c, h2, rfl⟩)), h3⟩)
    · obtain ⟨v, hv, rfl⟩ := List.mem_map.1 h1
      have hm := hN.all c (List.mem_flatMap.2 ⟨v, hv, hc⟩)
      rw [hN.met] at hm
      rcases Bool.or_eq_true_iff.1 hm with h2 | h2
      · rcases (h.met c).1 h2 with h3 | h3 | h3
        · exact .inl h3
        · obtain ⟨q, hq, rfl⟩ := List.mem_map.1 h3
          exact .inr (.inl ⟨q.2, List.mem_append.2 (.inl hq), by have := h.lt q hq; show q.2 ≤ far + 1; omega⟩)
        · exact .inr (.inl ⟨far, List.mem_append.2 (.inr (List.mem_map.2 ⟨c, h3, rfl⟩)), Nat.le_succ _⟩)
      · exact .inr (.inr ⟨by simpa using h2, Nat.le_refl _⟩)
  · rcases List.mem_append.1 hp with h1 | h1
    · rcases h.pred p h1 with h2 | ⟨h2, b, h3, h4⟩
      · exact .inl h2
      · exact .inr ⟨h2, b, List.mem_append.2 (.inl h3), h4⟩
    · obtain ⟨v, hv, rfl⟩ := List.mem_map.1 h1
      rcases h.predF v hv with h2 | ⟨h2, b, h3, h4⟩
      · exact .inl h2
      · exact .inr ⟨h2, b, List.mem_append.2 (.inl h3), h4⟩
  · rw [hn] at hc
    obtain ⟨v, hv, h2⟩ := hNr c hc
    exact .inr ⟨by omega, v, List.mem_append.2 (.inr (List.mem_map.2 ⟨v, hv, rfl⟩)), h2⟩
  · rcases h.has with h1 | ⟨rfl, h1⟩
    · exact .inl (List.mem_append.2 (.inl h1))
    · exact .inl (List.mem_append.2 (.inr (List.mem_map.2 ⟨a, h1, rfl⟩)))

/-- All levels. -/
theorem Lv.end_ {R : Gr} (hO : Ok R) {M0 : Mt} {a : Nat} : ∀ (f : Nat) {T : List (Nat × Nat)} {F : List Nat} {M : Mt} {far : Nat}, Lv R M0 a T F M far → (F = [] ∨ cnt M < f) →
    ∃ far', Lv R M0 a (T ++ (bfs R f M F far).1) [] (bfs R f M F far).2 far'
  | 0, T, F, M, far, h, hf => by
    rcases hf with rfl | hf
    · rw [bfs_nil]; simpa using ⟨far, h⟩
    · omega
  | f + 1, T, F, M, far, h, hf => by
    by_cases hF : F = []
    · subst hF; rw [bfs_nil]; simpa using ⟨far, h⟩
    · rw [bfs_succ R f M hF]
      obtain ⟨N, hN⟩ := expF_all hO F M h.len
      have hn : (expF R M F).2 = N := by rw [hN.nxt]; simp
      have := Lv.end_ hO f (h.next hO) (by
        rw [hn]
        have h1 := hN.cnt
        cases N with
        | nil => exact .inl rfl
        | cons x N =>
          right
          rcases hf with hf | hf
          · exact absurd hf hF
          · simp only [List.length_cons] at h1; omega)
      rw [List.append_assoc] at this
      exact this

/-- What a search from a tells, of nodes that were not met (M0), and who is met behind it. -/
def tells (R : Gr) (M0 : Mt) (a : Nat) : List (Nat × Nat) := (bfs R (R.length + 1) (M0.set a true) [a] 0).1
def metN (R : Gr) (M0 : Mt) (a : Nat) : Mt := (bfs R (R.length + 1) (M0.set a true) [a] 0).2
theorem tells_lv {R : Gr} (hO : Ok R) {M0 : Mt} {a : Nat} (ha : a < R.length) (hM : M0.length = R.length) (h : mtb M0 a = false) : ∃ far, Lv R M0 a (tells R M0 a) [] (metN R M0 a) far := by
  have h1 := Lv.first ha hM h
  obtain ⟨far, h2⟩ := Lv.end_ hO (R.length + 1) h1 (.inr (by have := cnt_le (M0.set a true); simp at this; omega))
  exact ⟨far, h2⟩

/-- Distances, as a list of numbers. -/
def dg (D : List Int) (i : Nat) : Int := D.getD i (-1)
def lay (T : List (Nat × Nat)) (D : List Int) : List Int := T.foldl (fun D p => D.set p.1 (p.2 : Int)) D
def distL (R : Gr) (a : Nat) : List Int := lay (tells R (List.replicate R.length false) a) (List.replicate R.length (-1))
theorem lay_length (T : List (Nat × Nat)) (D : List Int) : (lay T D).length = D.length := by
  unfold lay
  induction T generalizing D with
  | nil => rfl
  | cons p T ih => rw [List.foldl_cons, ih]; simp
theorem lay_snoc (T : List (Nat × Nat)) (p : Nat × Nat) (D : List Int) : lay (T ++ [p]) D = (lay T D).set p.1 (p.2 : Int) := by simp [lay, List.foldl_append]
theorem dg_set {D : List Int} {i : Nat} (h : i < D.length) (x : Int) (j : Nat) : dg (D.set i x) j = if j = i then x else dg D j := by
  unfold dg
  simp only [List.getD_eq_getElem?_getD, List.getElem?_set]
  by_cases e : i = j
  · subst e; simp [h]
  · rw [if_neg e, if_neg (fun h => e h.symm)]
theorem lay_out (T : List (Nat × Nat)) (D : List Int) (i : Nat) (h : i ∉ T.map (·.1)) : dg (lay T D) i = dg D i := by
  unfold lay
  induction T generalizing D with
  | nil => rfl
  | cons p T ih =>
    rw [List.foldl_cons, ih _ (fun h2 => h (by simp at h2 ⊢; exact .inr h2))]
    unfold dg
    simp only [List.getD_eq_getElem?_getD, List.getElem?_set]
    rw [if_neg (fun e => h (by simp [e]))]
theorem lay_in {T : List (Nat × Nat)} {D : List Int} (hn : (T.map (·.1)).Nodup) (hl : ∀ p ∈ T, p.1 < D.length) {p : Nat × Nat} (hp : p ∈ T) : dg (lay T D) p.1 = (p.2 : Int) := by
  induction T generalizing D with
  | nil => simp at hp
  | cons q T ih =>
    have hn' := List.nodup_cons.1 hn
    have e : lay (q :: T) D = lay T (D.set q.1 (q.2 : Int)) := rfl
    rw [e]
    rcases List.mem_cons.1 hp with rfl | hp
    · rw [lay_out _ _ _ hn'.1, dg_set (hl p (List.mem_cons_self ..)), if_pos rfl]
    · exact ih hn'.2 (fun p hp => by simpa using hl p (List.mem_cons_of_mem _ hp)) hp

/-- What distances from a are. -/
structure Far (R : Gr) (a : Nat) (D : List Int) : Prop where
  len : D.length = R.length
  lo : ∀ i, -1 ≤ dg D i
  zero : ∀ i, dg D i = 0 ↔ i = a
  step : ∀ b c, c ∈ row R b → 0 ≤ dg D b → 0 ≤ dg D c ∧ dg D c ≤ dg D b + 1
  pred : ∀ i, 1 ≤ dg D i → ∃ b, i ∈ row R b ∧ dg D b = dg D i - 1
theorem distL_far {R : Gr} (hO : Ok R) {a : Nat} (ha : a < R.length) : Far R a (distL R a) ∧ ∀ i, 0 ≤ dg (distL R a) i ↔ i ∈ (tells R (List.replicate R.length false) a).map (·.1) := by
  obtain ⟨far, h⟩ := tells_lv hO ha (M0 := List.replicate R.length false) (by simp) (mt_none ..)
  unfold distL
  generalize tells R (List.replicate R.length false) a = T at *
  have hnd : (T.map (·.1)).Nodup := by simpa using h.nd
  have hl : ∀ p ∈ T, p.1 < (List.replicate R.length (-1 : Int)).length := fun p hp => by
    rw [List.length_replicate]
    exact (h.new p.1 (List.mem_append.2 (.inl (List.mem_map.2 ⟨p, hp, rfl⟩)))).2
  have hin : ∀ p ∈ T, dg (lay T (List.replicate R.length (-1))) p.1 = (p.2 : Int) := fun p hp => lay_in hnd hl hp
  have hm1 : ∀ i, dg (List.replicate R.length (-1)) i = -1 := fun i => by
    unfold dg
    simp only [List.getD_eq_getElem?_getD, List.getElem?_replicate]
    split <;> rfl
  have hout : ∀ i, i ∉ T.map (·.1) → dg (lay T (List.replicate R.length (-1))) i = -1 := fun i hi => by rw [lay_out _ _ _ hi, hm1]
  have hlen : (lay T (List.replicate R.length (-1))).length = R.length := by rw [lay_length, List.length_replicate]
  generalize lay T (List.replicate R.length (-1)) = D at *
  have hc : ∀ i, (∃ d, (i, d) ∈ T ∧ dg D i = (d : Int)) ∨ (i ∉ T.map (·.1) ∧ dg D i = -1) := by
    intro i
    by_cases hi : i ∈ T.map (·.1)
    · obtain ⟨p, hp, rfl⟩ := List.mem_map.1 hi
      exact .inl ⟨p.2, hp, hin p hp⟩
    · exact .inr ⟨hi, hout i hi⟩
  have ha0 : (a, 0) ∈ T := by
    rcases h.has with h1 | ⟨_, h1⟩
    · exact h1
    · simp at h1
  refine ⟨⟨hlen, fun i => ?_, fun i => ⟨fun hz => ?_, ?_⟩, fun b c hbc hb => ?_, fun i hi => ?_⟩, fun i => ⟨fun hi => ?_, fun hi => ?_⟩⟩
  · rcases hc i with ⟨d, _, e⟩ | ⟨_, e⟩ <;> omega
  · rcases hc i with ⟨d, hd, e⟩ | ⟨_, e⟩
    · rcases h.pred _ hd with ⟨h1, _⟩ | ⟨h1, _⟩
      · exact h1
      · have h1 : 1 ≤ d := h1
        omega
    · omega
  · rintro rfl
    exact hin _ ha0
  · rcases hc b with ⟨d, hd, e⟩ | ⟨_, e⟩
    · rcases h.out _ hd c hbc with h1 | ⟨d', h1, h2⟩ | ⟨h1, _⟩
      · rw [mt_none] at h1; cases h1
      · have := hin _ h1
        have h2 : d' ≤ d + 1 := h2
        have h3 : dg D c = (d' : Int) := this
        omega
      · simp at h1
    · omega
  · rcases hc i with ⟨d, hd, e⟩ | ⟨_, e⟩
    · rcases h.pred _ hd with ⟨_, h1⟩ | ⟨h1, b, h2, h3⟩
      · have h1 : d = 0 := h1
        omega
      · have h1 : 1 ≤ d := h1
        refine ⟨b, h3, ?_⟩
        have := hin _ h2
        have h4 : dg D b = ((d - 1 : Nat) : Int) := this
        omega
    · omega
  · rcases hc i with ⟨d, hd, e⟩ | ⟨_, e⟩
    · exact List.mem_map.2 ⟨_, hd, rfl⟩
    · omega
  · obtain ⟨p, hp, rfl⟩ := List.mem_map.1 hi
    have := hin p hp
    omega

/-- More edges: nobody farther. -/
theorem Far.less {R R' : Gr} {a : Nat} {D D' : List Int} (h : Far R a D) (h' : Far R' a D') (hs : ∀ b c, c ∈ row R b → c ∈ row R' b) :
    ∀ (d : Nat) (i : Nat), dg D i = (d : Int) → 0 ≤ dg D' i ∧ dg D' i ≤ (d : Int)
  | 0, i, hi => by
    have := (h'.zero i).2 ((h.zero i).1 hi)
    omega
  | d + 1, i, hi => by
    obtain ⟨b, hb, e⟩ := h.pred i (by omega)
    have h1 := Far.less h h' hs d b (by omega)
    have h2 := h'.step b i (hs b i hb) h1.1
    omega
end Gq
