/- Joined texts: QPure, QPure2, QPure3. -/
import Derived.Test.YtkfijjjnidiejaaDoorPPure

/-
  Pure: the search from the end, by the distance and what is left at least.
-/
namespace Go.Proofs.YtkfijjjnidiejaaDoor.Rq
set_option maxRecDepth 100000
open Pq (It Srt ins)

/-- A way of n steps to the end, over cells that may be. -/
inductive Wy (bk : Nat → List Nat) (may : Nat → Bool) (e : Nat) : Nat → Nat → Prop
  | base : may e = true → Wy bk may e 0 e
  | step {n x b : Nat} : Wy bk may e n x → b ∈ bk x → may b = true → Wy bk may e (n + 1) b
/-- The shortest one has n steps. -/
def Ds (bk : Nat → List Nat) (may : Nat → Bool) (e n x : Nat) : Prop := Wy bk may e n x ∧ ∀ m, m < n → ¬ Wy bk may e m x

section
variable {bk : Nat → List Nat} {may : Nat → Bool} {e : Nat}
theorem Ds.uniq {n m x : Nat} (h : Ds bk may e n x) (k : Ds bk may e m x) : n = m := by
  rcases Nat.lt_trichotomy n m with h1 | h1 | h1
  · exact absurd h.1 (k.2 n h1)
  · exact h1
  · exact absurd k.1 (h.2 m h1)
theorem Wy.ds {n x : Nat} (h : Wy bk may e n x) : ∃ m, m ≤ n ∧ Ds bk may e m x := by
  induction n using Nat.strongRecOn with
  | _ n ih =>
    by_cases hm : ∃ m, m < n ∧ Wy bk may e m x
    · obtain ⟨m, h1, h2⟩ := hm
      obtain ⟨m', h3, h4⟩ := ih m h1 h2
      exact ⟨m', by omega, h4⟩
    · exact ⟨n, Nat.le_refl _, h, fun m h1 h2 => hm ⟨m, h1, h2⟩⟩
theorem Wy.last {n x : Nat} (hw : Wy bk may e n x) : may x = true := by cases hw <;> assumption
theorem Ds.pred {n x : Nat} (h : Ds bk may e (n + 1) x) : ∃ y, x ∈ bk y ∧ Ds bk may e n y := by
  obtain ⟨h1, h2⟩ := h
  cases h1 with
  | step h3 h4 h5 =>
    rename_i y
    exact ⟨y, h4, h3, fun m hm hw => h2 (m + 1) (by omega) (.step hw h4 h5)⟩
theorem Ds.zero {x : Nat} (h : Ds bk may e 0 x) : x = e := by
  obtain ⟨h1, _⟩ := h
  cases h1
  rfl
end

/-- An item of the pile. -/
def item (h : Nat → Nat) (d c : Nat) : It := ⟨((d + h c : Nat) : Int), ((h c : Nat) : Int), ((c : Nat) : Int)⟩
/-- What is left at least is so: it turns by 1 along an edge, and it is nothing at the beginning. -/
structure Lft (bk : Nat → List Nat) (h : Nat → Nat) (f : Nat) : Prop where
  one : ∀ x b, b ∈ bk x → h b ≤ h x + 1 ∧ h x ≤ h b + 1
  zero : h f = 0

def met (M : List (Nat × Nat)) (c : Nat) : Prop := ∃ d, (c, d) ∈ M

/-- The state; of the cell that was met last (cur) those behind pre still wait. -/
structure Sta (N : Nat) (bk : Nat → List Nat) (may : Nat → Bool) (e f : Nat) (h : Nat → Nat) (M : List (Nat × Nat)) (P : List It) (cur : Option Nat) (pre : List Nat) : Prop where
  nd : (M.map (·.1)).Nodup
  its : ∀ x ∈ P, ∃ d c, x = item h d c ∧ c < N ∧ Wy bk may e d c
  mt : ∀ c d, (c, d) ∈ M → c < N ∧ Ds bk may e d c
  clo : ∀ c d, (c, d) ∈ M → ∀ b ∈ bk c, may b = true → (cur = some c → b ∈ pre) → met M b ∨ item h (d + 1) b ∈ P
  start : may e = true → met M e ∨ item h 0 e ∈ P
  mono : ∀ c d, (c, d) ∈ M → ∀ x ∈ P, ((d + h c : Nat) : Int) ≤ x.c
  frm : ∀ D, (f, D) ∈ M → ∀ c d, (c, d) ∈ M → d + h c ≤ D

section
variable {N : Nat} {bk : Nat → List Nat} {may : Nat → Bool} {e f : Nat} {h : Nat → Nat} {M : List (Nat × Nat)} {P : List It}

theorem le_c {a b : It} (hh : Pq.le a b) : a.c ≤ b.c := by unfold Pq.le Pq.lt at hh; simp at hh; omega
theorem Sta.start_ (he : e < N) : Sta N bk may e f h [] (if may e = true then [item h 0 e] else []) none [] := by
  refine ⟨by simp, fun x hx => ?_, fun c d hm => by simp at hm, fun c d hm => by simp at hm, fun hm => ?_, fun c d hm => by simp at hm, fun D hm => by simp at hm⟩
  · split at hx
    · rename_i hm
      have : x = item h 0 e := by simpa using hx
      exact ⟨0, e, this, he, .base hm⟩
    · simp at hx
  · rw [if_pos hm]; exact .inr (by simp)

theorem Sta.front (hs : Sta N bk may e f h M P none []) (hl : Lft bk h f) {k y : Nat} (hw : Wy bk may e k y) (hy : ¬ met M y) : ∃ x ∈ P, x.c ≤ ((k + h y : Nat) : Int) := by
  induction hw with
  | base hm =>
    rcases hs.start hm with h1 | h1
    · exact absurd h1 hy
    · exact ⟨_, h1, by simp [item]⟩
  | step hw hb hm ih =>
    rename_i n x b
    have hone := hl.one x b hb
    by_cases hx : met M x
    · obtain ⟨d, hd⟩ := hx
      have hds := (hs.mt x d hd).2
      have hle : d ≤ n := by
        rcases Nat.lt_or_ge n d with h1 | h1
        · exact absurd hw (hds.2 n h1)
        · exact h1
      rcases hs.clo x d hd b hb hm (fun h => by cases h) with h1 | h1
      · exact absurd h1 hy
      · exact ⟨_, h1, by simp only [item]; omega⟩
    · obtain ⟨z, h1, h2⟩ := ih hx
      exact ⟨z, h1, by omega⟩

theorem item_inj {d d' c c' : Nat} (hh : item h d c = item h d' c') : d = d' ∧ c = c' := by
  simp only [item, It.mk.injEq] at hh
  obtain ⟨h1, h2, h3⟩ := hh
  have e1 : c = c' := by omega
  subst e1
  exact ⟨by omega, rfl⟩

/-- The first one that is taken off is by its distance. -/
theorem Sta.popped (hs : Sta N bk may e f h M P none []) (hl : Lft bk h f) {d c : Nat} (hx : item h d c ∈ P) (hmin : ∀ y ∈ P, ((d + h c : Nat) : Int) ≤ y.c) (hc : ¬ met M c) : c < N ∧ Ds bk may e d c := by
  obtain ⟨d', c', e1, h1, h2⟩ := hs.its _ hx
  obtain ⟨rfl, rfl⟩ := item_inj e1
  refine ⟨h1, h2, fun m hm hw => ?_⟩
  obtain ⟨y, hy, hle⟩ := hs.front hl hw hc
  have := hmin y hy
  omega

/-- It is met then; what waits behind it, still does. -/
theorem Sta.meet {s : List It} {d c : Nat} (hs : Sta N bk may e f h M (item h d c :: s) none []) (hl : Lft bk h f) (hsrt : Srt (item h d c :: s)) (hc : ¬ met M c) (hD : ∀ D, (f, D) ∈ M → d + h c ≤ D) : Sta N bk may e f h (M ++ [(c, d)]) s (some c) [] := by
  have hmin : ∀ y ∈ item h d c :: s, ((d + h c : Nat) : Int) ≤ y.c := by
    intro y hy
    rcases List.mem_cons.1 hy with rfl | hy
    · simp [item]
    · have h1 := (List.pairwise_cons.1 hsrt).1 y hy
      exact le_c h1
  obtain ⟨hcN, hds⟩ := hs.popped hl (List.mem_cons_self ..) hmin hc
  have hmem : ∀ x y, (x, y) ∈ M ++ [(c, d)] ↔ (x, y) ∈ M ∨ (x = c ∧ y = d) := by intro x y; simp
  have hmet : ∀ x, met (M ++ [(c, d)]) x ↔ met M x ∨ x = c := by
    intro x
    unfold met
    simp only [hmem]
    constructor
    · rintro ⟨y, h1 | ⟨h1, _⟩⟩
      · exact .inl ⟨y, h1⟩
      · exact .inr h1
    · rintro (⟨y, h1⟩ | h1)
      · exact ⟨y, .inl h1⟩
      · exact ⟨d, .inr ⟨h1, rfl⟩⟩
  refine ⟨?_, fun x hx => hs.its x (List.mem_cons_of_mem _ hx), fun x y hm => ?_, fun x y hm b hb hmb hcur => ?_, fun hm => ?_, fun x y hm z hz => ?_, fun D hD' x y hm => ?_⟩
  · rw [List.map_append, List.nodup_append]
    refine ⟨hs.nd, by simp, fun x hx y hy => ?_⟩
    simp at hy
    subst hy
    rintro rfl
    obtain ⟨p, hp, rfl⟩ := List.mem_map.1 hx
    exact hc ⟨p.2, hp⟩
  · rcases (hmem x y).1 hm with h1 | ⟨rfl, rfl⟩
    · exact hs.mt x y h1
    · exact ⟨hcN, hds⟩
  · rcases (hmem x y).1 hm with h1 | ⟨rfl, rfl⟩
    · rcases hs.clo x y h1 b hb hmb (fun h => by cases h) with h2 | h2
      · exact .inl ((hmet b).2 (.inl h2))
      · rcases List.mem_cons.1 h2 with h3 | h3
        · exact .inl ((hmet b).2 (.inr (item_inj h3).2))
        · exact .inr h3
    · have := hcur rfl
      simp at this
  · rcases hs.start hm with h1 | h1
    · exact .inl ((hmet e).2 (.inl h1))
    · rcases List.mem_cons.1 h1 with h3 | h3
      · exact .inl ((hmet e).2 (.inr (item_inj h3).2))
      · exact .inr h3
  · rcases (hmem x y).1 hm with h1 | ⟨rfl, rfl⟩
    · exact hs.mono x y h1 z (List.mem_cons_of_mem _ hz)
    · exact hmin z (List.mem_cons_of_mem _ hz)
  · rcases (hmem f D).1 hD' with h1 | ⟨rfl, rfl⟩
    · rcases (hmem x y).1 hm with h2 | ⟨rfl, rfl⟩
      · exact hs.frm D h1 x y h2
      · exact hD D h1
    · rcases (hmem x y).1 hm with h2 | ⟨rfl, rfl⟩
      · have := hs.mono x y h2 _ (List.mem_cons_self ..)
        have hz := hl.zero
        simp only [item] at this
        omega
      · have hz := hl.zero
        omega

/-- An item that is known to be met is thrown away. -/
theorem Sta.drop {s : List It} {d c : Nat} (hs : Sta N bk may e f h M (item h d c :: s) none []) (hc : met M c) : Sta N bk may e f h M s none [] := by
  refine ⟨hs.nd, fun x hx => hs.its x (List.mem_cons_of_mem _ hx), hs.mt, fun x y hm b hb hmb hcur => ?_, fun hm => ?_, fun x y hm z hz => hs.mono x y hm z (List.mem_cons_of_mem _ hz), hs.frm⟩
  · rcases hs.clo x y hm b hb hmb hcur with h2 | h2
    · exact .inl h2
    · rcases List.mem_cons.1 h2 with h3 | h3
      · exact .inl (by rw [(item_inj h3).2]; exact hc)
      · exact .inr h3
  · rcases hs.start hm with h1 | h1
    · exact .inl h1
    · rcases List.mem_cons.1 h1 with h3 | h3
      · exact .inl (by rw [(item_inj h3).2]; exact hc)
      · exact .inr h3

/-- One of those behind the cell that was met last: it is met already. -/
theorem Sta.pass {c b : Nat} {pre : List Nat} (hs : Sta N bk may e f h M P (some c) pre) (hb : met M b) : Sta N bk may e f h M P (some c) (pre ++ [b]) := by
  refine ⟨hs.nd, hs.its, hs.mt, fun x y hm z hz hmz hcur => ?_, hs.start, hs.mono, hs.frm⟩
  by_cases e1 : z = b
  · subst e1; exact .inl hb
  · refine hs.clo x y hm z hz hmz (fun hx => ?_)
    have := hcur hx
    rcases List.mem_append.1 this with h1 | h1
    · exact h1
    · exact absurd (by simpa using h1) e1
/-- It is pushed. -/
theorem Sta.push {c d b : Nat} {pre : List Nat} (hs : Sta N bk may e f h M P (some c) pre) (hl : Lft bk h f) (hcd : (c, d) ∈ M) (hb : b ∈ bk c) (hbN : b < N) (hmb : may b = true) (hmax : ∀ x y, (x, y) ∈ M → y + h x ≤ d + h c) : Sta N bk may e f h M (ins (item h (d + 1) b) P) (some c) (pre ++ [b]) := by
  have hmem : ∀ x, x ∈ ins (item h (d + 1) b) P ↔ x = item h (d + 1) b ∨ x ∈ P := by
    intro x
    rw [(Pq.ins_perm _ P).mem_iff, List.mem_cons]
  have hone := hl.one c b hb
  refine ⟨hs.nd, fun x hx => ?_, hs.mt, fun x y hm z hz hmz hcur => ?_, fun hm => ?_, fun x y hm z hz => ?_, hs.frm⟩
  · rcases (hmem x).1 hx with rfl | h1
    · exact ⟨d + 1, b, rfl, hbN, .step (hs.mt c d hcd).2.1 hb hmb⟩
    · exact hs.its x h1
  · by_cases e1 : z = b ∧ x = c
    · obtain ⟨rfl, rfl⟩ := e1
      have : y = d := (hs.mt x y hm).2.uniq (hs.mt x d hcd).2
      subst this
      exact .inr ((hmem _).2 (.inl rfl))
    · rcases hs.clo x y hm z hz hmz (fun hx => by
        have h1 := hcur hx
        rcases List.mem_append.1 h1 with h2 | h2
        · exact h2
        · exact absurd ⟨by simpa using h2, by injection hx with hx; exact hx.symm⟩ e1) with h1 | h1
      · exact .inl h1
      · exact .inr ((hmem _).2 (.inr h1))
  · rcases hs.start hm with h1 | h1
    · exact .inl h1
    · exact .inr ((hmem _).2 (.inr h1))
  · rcases (hmem z).1 hz with rfl | h1
    · have := hmax x y hm
      simp only [item]
      omega
    · exact hs.mono x y hm z h1
/-- All behind it have been gone through. -/
theorem Sta.fin {c : Nat} {pre : List Nat} (hs : Sta N bk may e f h M P (some c) pre) (hp : ∀ b ∈ bk c, may b = true → b ∈ pre) : Sta N bk may e f h M P none [] := by
  refine ⟨hs.nd, hs.its, hs.mt, fun x y hm z hz hmz _ => hs.clo x y hm z hz hmz (fun hx => ?_), hs.start, hs.mono, hs.frm⟩
  injection hx with hx
  subst hx
  exact hp z hz hmz

/-- What is looked at. -/
def Lk (bk : Nat → List Nat) (may : Nat → Bool) (e f : Nat) (h : Nat → Nat) (c d : Nat) : Prop := Ds bk may e d c ∧ ∀ D, Ds bk may e D f → d + h c ≤ D

/-- All that were met are looked at. -/
theorem Sta.in_ (hs : Sta N bk may e f h M P none []) (hl : Lft bk h f) {c d : Nat} (hm : (c, d) ∈ M) : Lk bk may e f h c d := by
  refine ⟨(hs.mt c d hm).2, fun D hD => ?_⟩
  by_cases hf : met M f
  · obtain ⟨D', hD'⟩ := hf
    rw [hD.uniq (hs.mt f D' hD').2]
    exact hs.frm D' hD' c d hm
  · obtain ⟨x, hx, hle⟩ := hs.front hl hD.1 hf
    have := hs.mono c d hm x hx
    have hz := hl.zero
    omega
/-- Nothing waits any more. -/
theorem Sta.empty (hs : Sta N bk may e f h M [] none []) (hl : Lft bk h f) (c d : Nat) : (c, d) ∈ M ↔ Lk bk may e f h c d := by
  refine ⟨hs.in_ hl, fun hk => ?_⟩
  by_cases hc : met M c
  · obtain ⟨d', hd'⟩ := hc
    rw [hk.1.uniq (hs.mt c d' hd').2]
    exact hd'
  · obtain ⟨x, hx, _⟩ := hs.front hl hk.1.1 hc
    simp at hx
/-- What waits is longer than the way that was found. -/
theorem Sta.over {s : List It} {d c D : Nat} (hs : Sta N bk may e f h M (item h d c :: s) none []) (hl : Lft bk h f) (hsrt : Srt (item h d c :: s)) (hf : (f, D) ∈ M) (hD : D < d + h c) (x y : Nat) : (x, y) ∈ M ↔ Lk bk may e f h x y := by
  refine ⟨hs.in_ hl, fun hk => ?_⟩
  by_cases hc : met M x
  · obtain ⟨d', hd'⟩ := hc
    rw [hk.1.uniq (hs.mt x d' hd').2]
    exact hd'
  · obtain ⟨z, hz, hle⟩ := hs.front hl hk.1.1 hc
    have h1 := hk.2 D (hs.mt f D hf).2
    have h2 : ((d + h c : Nat) : Int) ≤ z.c := by
      rcases List.mem_cons.1 hz with rfl | hz
      · simp [item]
      · have h1 := (List.pairwise_cons.1 hsrt).1 z hz
        exact le_c h1
    omega
theorem nodup_lt {l : List Nat} {n : Nat} (hn : l.Nodup) (hl : ∀ x ∈ l, x < n) : l.length ≤ n := by
  have h := List.Nodup.length_le_of_subset (l₁ := l) (l₂ := List.range n) hn (fun x hx => List.mem_range.2 (hl x hx))
  simpa using h
theorem Sta.len {cur : Option Nat} {pre : List Nat} (hs : Sta N bk may e f h M P cur pre) : M.length ≤ N := by
  have := nodup_lt hs.nd (n := N) (fun x hx => by
    obtain ⟨p, hp, rfl⟩ := List.mem_map.1 hx
    exact (hs.mt p.1 p.2 hp).1)
  simpa using this
end
end Go.Proofs.YtkfijjjnidiejaaDoor.Rq

/-
  Pure: what lies around a cell: a queue.
-/
namespace Go.Proofs.YtkfijjjnidiejaaDoor.Rq
set_option maxRecDepth 100000

/-- A way of n steps from c, banned cells left out behind it. -/
inductive Fw (nx : Nat → List Nat) (ban : Nat → Bool) (c : Nat) : Nat → Nat → Prop
  | base : Fw nx ban c 0 c
  | step {n x y : Nat} : Fw nx ban c n x → y ∈ nx x → ban y = false → Fw nx ban c (n + 1) y

/-- The queue: the cells found, each with its distance; those ahead of i are done, of the one at i those that pre has. -/
structure Qu (N : Nat) (nx : Nat → List Nat) (ban : Nat → Bool) (c : Nat) (far : Nat) (Q : List (Nat × Nat)) (i : Nat) (pre : List Nat) : Prop where
  nd : (Q.map (·.1)).Nodup
  lt : ∀ x d, (x, d) ∈ Q → x < N ∧ d ≤ far ∧ Fw nx ban c d x
  hd : (c, 0) ∈ Q
  ris : Q.Pairwise (fun p q => p.2 ≤ q.2)
  top : ∀ p ∈ Q, ∀ a, Q[i]? = some a → p.2 ≤ a.2 + 1
  lo : ∀ j a, j < i → Q[j]? = some a → ∀ y ∈ nx a.1, ban y = false → met Q y
  at_ : ∀ a, Q[i]? = some a → ∀ y ∈ pre, ban y = false → met Q y
  mn : ∀ x d m, (x, d) ∈ Q → Fw nx ban c m x → d ≤ m

section
variable {N : Nat} {nx : Nat → List Nat} {ban : Nat → Bool} {c far : Nat} {Q : List (Nat × Nat)} {i : Nat}

theorem Qu.start (hc : c < N) : Qu N nx ban c far [(c, 0)] 0 [] := by
  refine ⟨by simp, fun x d h => ?_, by simp, by simp, fun p hp a ha => ?_, fun j a hj => by omega, fun a _ y hy => by simp at hy, fun x d m h hw => ?_⟩
  · have h : x = c ∧ d = 0 := by simpa using h
    obtain ⟨rfl, rfl⟩ := h
    exact ⟨hc, Nat.zero_le _, .base⟩
  · have h1 : p = (c, 0) := by simpa using hp
    rw [h1]
    exact Nat.zero_le _
  · have h : x = c ∧ d = 0 := by simpa using h
    omega

/-- All cells of the levels up to the one that is at hand have been found. -/
theorem Qu.level {pre : List Nat} (h : Qu N nx ban c far Q i pre) {a : Nat × Nat} (ha : Q[i]? = some a) : ∀ (m x : Nat), m ≤ a.2 → Fw nx ban c m x → met Q x := by
  intro m
  induction m with
  | zero =>
    intro x _ hw
    cases hw
    exact ⟨0, h.hd⟩
  | succ m ih =>
    intro x hm hw
    cases hw with
    | step h1 h2 h3 =>
      rename_i z
      obtain ⟨dz, hz⟩ := ih z (by omega) h1
      have hdz : dz ≤ m := h.mn z dz m hz h1
      obtain ⟨j, hj, e⟩ := List.getElem_of_mem hz
      have hji : j < i := by
        rcases Nat.lt_or_ge j i with h4 | h4
        · exact h4
        · have hil : i < Q.length := by
            rcases Nat.lt_or_ge i Q.length with h5 | h5
            · exact h5
            · rw [List.getElem?_eq_none h5] at ha; cases ha
          have ea : Q[i] = a := by rw [List.getElem?_eq_getElem hil] at ha; exact Option.some.inj ha
          have hle : a.2 ≤ dz := by
            rcases Nat.lt_or_eq_of_le h4 with h5 | h5
            · have := List.pairwise_iff_getElem.1 h.ris i j hil hj h5
              rw [ea, e] at this
              exact this
            · subst h5
              rw [e] at ea
              rw [← ea]
              exact Nat.le_refl _
          omega
      exact h.lo j (z, dz) hji (by rw [List.getElem?_eq_getElem hj, e]) x h2 h3

/-- One that is found, or banned. -/
theorem Qu.pass {pre : List Nat} {y : Nat} (h : Qu N nx ban c far Q i pre) (hy : met Q y ∨ ban y = true) : Qu N nx ban c far Q i (pre ++ [y]) :=
  ⟨h.nd, h.lt, h.hd, h.ris, h.top, h.lo, fun a ha z hz hb => by
    rcases List.mem_append.1 hz with h1 | h1
    · exact h.at_ a ha z h1 hb
    · have e : z = y := by simpa using h1
      subst e
      rcases hy with h2 | h2
      · exact h2
      · exact absurd h2 (by rw [hb]; simp), h.mn⟩
/-- One more. -/
theorem Qu.put {pre : List Nat} {y : Nat} {a : Nat × Nat} (h : Qu N nx ban c far Q i pre) (ha : Q[i]? = some a) (hy : y ∈ nx a.1) (hyN : y < N) (hb : ban y = false) (hn : ¬ met Q y) (hf : a.2 < far) : Qu N nx ban c far (Q ++ [(y, a.2 + 1)]) i (pre ++ [y]) := by
  have hil : i < Q.length := by
    rcases Nat.lt_or_ge i Q.length with h5 | h5
    · exact h5
    · rw [List.getElem?_eq_none h5] at ha; cases ha
  have hlv := h.level ha
  have ham : a ∈ Q := by rw [List.getElem?_eq_getElem hil] at ha; rw [← Option.some.inj ha]; exact List.getElem_mem hil
  have hmt : ∀ x, met Q x → met (Q ++ [(y, a.2 + 1)]) x := fun x ⟨d, hd⟩ => ⟨d, List.mem_append.2 (.inl hd)⟩
  have hgi : ∀ j b, (Q ++ [(y, a.2 + 1)])[j]? = some b → j ≤ i → Q[j]? = some b := fun j b hj hle => by
    rwa [List.getElem?_append_left (by omega)] at hj
  refine ⟨?_, fun x d hm => ?_, List.mem_append.2 (.inl h.hd), ?_, fun p hp b hbi => ?_, fun j b hj hbj z hz hzb => hmt z (h.lo j b hj (hgi j b hbj (by omega)) z hz hzb), fun b hbi z hz hzb => ?_, fun x d m hm hw => ?_⟩
  · rw [List.map_append, List.nodup_append]
    refine ⟨h.nd, by simp, fun x hx z hz => ?_⟩
    simp at hz
    subst hz
    rintro rfl
    obtain ⟨p, hp, rfl⟩ := List.mem_map.1 hx
    exact hn ⟨p.2, hp⟩
  · rcases List.mem_append.1 hm with h1 | h1
    · exact h.lt x d h1
    · have e : x = y ∧ d = a.2 + 1 := by simpa using h1
      obtain ⟨rfl, rfl⟩ := e
      exact ⟨hyN, hf, .step (h.lt a.1 a.2 ham).2.2 hy hb⟩
  · rw [List.pairwise_append]
    refine ⟨h.ris, by simp, fun p hp q hq => ?_⟩
    have e : q = (y, a.2 + 1) := by simpa using hq
    rw [e]
    exact h.top p hp a ha
  · have hb' := hgi i b hbi (Nat.le_refl _)
    rw [ha] at hb'
    cases hb'
    rcases List.mem_append.1 hp with h1 | h1
    · exact h.top p h1 a ha
    · have e : p = (y, a.2 + 1) := by simpa using h1
      rw [e]
      exact Nat.le_refl _
  · rcases List.mem_append.1 hz with h1 | h1
    · exact hmt z (h.at_ b (hgi i b hbi (Nat.le_refl _)) z h1 hzb)
    · have e : z = y := by simpa using h1
      subst e
      exact ⟨a.2 + 1, by simp⟩
  · rcases List.mem_append.1 hm with h1 | h1
    · exact h.mn x d m h1 hw
    · have e : x = y ∧ d = a.2 + 1 := by simpa using h1
      obtain ⟨rfl, rfl⟩ := e
      rcases Nat.lt_or_ge a.2 m with h2 | h2
      · exact h2
      · exact absurd (hlv m x h2 hw) hn
/-- The one at hand is done. -/
theorem Qu.next {pre : List Nat} {a : Nat × Nat} (h : Qu N nx ban c far Q i pre) (ha : Q[i]? = some a) (hp : ∀ y ∈ nx a.1, ban y = false → y ∈ pre) : Qu N nx ban c far Q (i + 1) [] := by
  have hil : i < Q.length := by
    rcases Nat.lt_or_ge i Q.length with h5 | h5
    · exact h5
    · rw [List.getElem?_eq_none h5] at ha; cases ha
  refine ⟨h.nd, h.lt, h.hd, h.ris, fun p hp' b hb => ?_, fun j b hj hbj y hy hyb => ?_, fun b _ y hy => by simp at hy, h.mn⟩
  · have h1 := h.top p hp' a ha
    have h2 : a.2 ≤ b.2 := by
      have hil2 : i + 1 < Q.length := by
        rcases Nat.lt_or_ge (i + 1) Q.length with h5 | h5
        · exact h5
        · rw [List.getElem?_eq_none h5] at hb; cases hb
      have := List.pairwise_iff_getElem.1 h.ris i (i + 1) hil hil2 (by omega)
      rw [List.getElem?_eq_getElem hil] at ha
      rw [List.getElem?_eq_getElem hil2] at hb
      rw [← Option.some.inj ha, ← Option.some.inj hb]
      exact this
    omega
  · by_cases e : j = i
    · subst e
      rw [ha] at hbj
      cases hbj
      exact h.at_ a ha y (hp y hy hyb) hyb
    · exact h.lo j b (by omega) hbj y hy hyb
/-- All are done. -/
theorem Qu.all (h : Qu N nx ban c far Q i []) (hi : Q.length ≤ i) (x : Nat) : met Q x ↔ ∃ n, n ≤ far ∧ Fw nx ban c n x := by
  constructor
  · rintro ⟨d, hd⟩
    exact ⟨d, (h.lt x d hd).2.1, (h.lt x d hd).2.2⟩
  · rintro ⟨n, hn, hw⟩
    clear hn
    induction hw with
    | base => exact ⟨0, h.hd⟩
    | step h1 h2 h3 ih =>
      rename_i z y
      obtain ⟨dz, hz⟩ := ih
      obtain ⟨j, hj, e⟩ := List.getElem_of_mem hz
      exact h.lo j _ (by omega) (by rw [List.getElem?_eq_getElem hj, e]) y h2 h3
/-- The one at hand is as far as any may be. -/
theorem Qu.far_ {a : Nat × Nat} (h : Qu N nx ban c far Q i []) (ha : Q[i]? = some a) (hf : a.2 = far) (x : Nat) : met Q x ↔ ∃ n, n ≤ far ∧ Fw nx ban c n x := by
  constructor
  · rintro ⟨d, hd⟩
    exact ⟨d, (h.lt x d hd).2.1, (h.lt x d hd).2.2⟩
  · rintro ⟨n, hn, hw⟩
    exact h.level ha n x (by omega) hw
theorem Qu.len {pre : List Nat} (h : Qu N nx ban c far Q i pre) : Q.length ≤ N := by
  have := nodup_lt h.nd (n := N) (fun x hx => by
    obtain ⟨p, hp, rfl⟩ := List.mem_map.1 hx
    exact (h.lt p.1 p.2 hp).1)
  simpa using this
end
end Go.Proofs.YtkfijjjnidiejaaDoor.Rq

/-
  Pure: what lies around a cell, level by level: the document's own way.
-/
namespace Go.Proofs.YtkfijjjnidiejaaDoor.Rq
set_option maxRecDepth 100000

/-- Marks while level k is gone through, the cells ahead of a done, of a those that pre has. -/
structure Ra (N : Nat) (nx : Nat → List Nat) (ban : Nat → Bool) (c : Nat) (d : List Nat) (k a : Nat) (pre : List Nat) : Prop where
  len : d.length = N
  pos : ∀ x v : Nat, d[x]? = some (v + 1) → Fw nx ban c v x ∧ ∀ m, Fw nx ban c m x → v ≤ m
  low : ∀ m x : Nat, m + 1 ≤ k → x < N → Fw nx ban c m x → ∃ v : Nat, d[x]? = some (v + 1)
  top : ∀ x v : Nat, d[x]? = some v → v ≤ k + 1
  beg : d[c]? = some 1
  done : ∀ b : Nat, b < a → d[b]? = some k → ∀ y ∈ nx b, ban y = false → ∃ v : Nat, d[y]? = some (v + 1)
  at_ : d[a]? = some k → ∀ y ∈ pre, ban y = false → ∃ v : Nat, d[y]? = some (v + 1)

section
variable {N : Nat} {nx : Nat → List Nat} {ban : Nat → Bool} {c : Nat} {d : List Nat} {k a : Nat}

theorem Fw.zero {x : Nat} (h : Fw nx ban c 0 x) : x = c := by cases h; rfl

theorem Ra.start (hc : c < N) : Ra N nx ban c ((List.replicate N 0).set c 1) 1 0 [] ∧ ∀ x v : Nat, ((List.replicate N 0).set c 1)[x]? = some v → v ≤ 1 := by
  have hg : ∀ x v : Nat, ((List.replicate N 0).set c 1)[x]? = some (v + 1) → x = c ∧ v = 0 := by
    intro x v h
    rw [List.getElem?_set] at h
    split at h
    · rename_i e
      subst e
      simp [hc] at h
      exact ⟨rfl, by omega⟩
    · rw [List.getElem?_replicate] at h
      split at h
      · simp at h
      · cases h
  have ht : ∀ x v : Nat, ((List.replicate N 0).set c 1)[x]? = some v → v ≤ 1 := fun x v h => by
    cases v with
    | zero => exact Nat.zero_le _
    | succ v => obtain ⟨_, rfl⟩ := hg x v h; omega
  refine ⟨⟨by simp, fun x v h => ?_, fun m x hm hx hw => ?_, fun x v h => Nat.le_trans (ht x v h) (by omega), by simp [hc], fun b hb => by omega, fun _ y hy => by simp at hy⟩, ht⟩
  · obtain ⟨rfl, rfl⟩ := hg x v h
    exact ⟨.base, fun _ _ => Nat.zero_le _⟩
  · obtain rfl : m = 0 := by omega
    obtain rfl := hw.zero
    exact ⟨0, by simp [hc]⟩

/-- One that is marked, or banned. -/
theorem Ra.pass {pre : List Nat} {y : Nat} (h : Ra N nx ban c d k a pre) (hy : (∃ v : Nat, d[y]? = some (v + 1)) ∨ (ban y = true)) : Ra N nx ban c d k a (pre ++ [y]) :=
  ⟨h.len, h.pos, h.low, h.top, h.beg, h.done, fun ha z hz hb => by
    rcases List.mem_append.1 hz with h1 | h1
    · exact h.at_ ha z h1 hb
    · have e : z = y := by simpa using h1
      subst e
      rcases hy with h2 | h2
      · exact h2
      · rw [hb] at h2; cases h2⟩
/-- One more. -/
theorem Ra.put {pre : List Nat} {y : Nat} (h : Ra N nx ban c d k a pre) (hk : 1 ≤ k) (ha : d[a]? = some k) (hya : y ∈ nx a) (hy : d[y]? = some 0) (hb : ban y = false) : Ra N nx ban c (d.set y (k + 1)) k a (pre ++ [y]) := by
  have hyl : y < d.length := by
    rcases Nat.lt_or_ge y d.length with h1 | h1
    · exact h1
    · rw [List.getElem?_eq_none h1] at hy; cases hy
  have hmono : ∀ x : Nat, (∃ v : Nat, d[x]? = some (v + 1)) → ∃ v : Nat, (d.set y (k + 1))[x]? = some (v + 1) := by
    rintro x ⟨v, hv⟩
    rw [List.getElem?_set]
    split
    · exact ⟨k, rfl⟩
    · exact ⟨v, hv⟩
  have hset : (d.set y (k + 1))[y]? = some (k + 1) := by rw [List.getElem?_set, if_pos rfl, if_pos hyl]
  have hold : ∀ x v : Nat, (d.set y (k + 1))[x]? = some v → x = y ∧ v = k + 1 ∨ d[x]? = some v := by
    intro x v hv
    rw [List.getElem?_set] at hv
    split at hv
    · rename_i e
      exact .inl ⟨e.symm, (Option.some.inj hv).symm⟩
    · exact .inr hv
  have hyc : y ≠ c := fun e => by rw [e, h.beg] at hy; cases hy
  refine ⟨by simpa using h.len, fun x v hv => ?_, fun m x hm hx hw => hmono x (h.low m x hm hx hw), fun x v hv => ?_, ?_, fun b hb' hbk z hz hzb => ?_, fun hak z hz hzb => ?_⟩
  · rcases hold x v.succ hv with ⟨rfl, e⟩ | h1
    · obtain rfl : v = k := by omega
      obtain ⟨k', rfl⟩ : ∃ k', v = k' + 1 := ⟨v - 1, by omega⟩
      refine ⟨.step (h.pos a k' ha).1 hya hb, fun m hw => ?_⟩
      rcases Nat.lt_or_ge m (k' + 1) with h2 | h2
      · obtain ⟨u, hu⟩ := h.low m x (by omega) (by rw [← h.len]; exact hyl) hw
        rw [hy] at hu
        cases hu
      · exact h2
    · exact h.pos x v h1
  · rcases hold x v hv with ⟨_, rfl⟩ | h1
    · exact Nat.le_refl _
    · exact h.top x v h1
  · rw [List.getElem?_set, if_neg hyc]; exact h.beg
  · rcases hold b k hbk with ⟨_, e⟩ | h1
    · omega
    · exact hmono z (h.done b hb' h1 z hz hzb)
  · rcases List.mem_append.1 hz with h1 | h1
    · exact hmono z (h.at_ ha z h1 hzb)
    · have e : z = y := by simpa using h1
      subst e
      exact ⟨k, hset⟩
theorem Ra.next {pre : List Nat} (h : Ra N nx ban c d k a pre) (hp : d[a]? = some k → ∀ y ∈ nx a, ban y = false → y ∈ pre) : Ra N nx ban c d k (a + 1) [] :=
  ⟨h.len, h.pos, h.low, h.top, h.beg, fun b hb hbk y hy hyb => by
    by_cases e : b = a
    · subst e
      exact h.at_ hbk y (hp hbk y hy hyb) hyb
    · exact h.done b (by omega) hbk y hy hyb, fun _ y hy => by simp at hy⟩
/-- A level done. -/
theorem Ra.level (h : Ra N nx ban c d k N []) (hnx : ∀ x, ∀ y ∈ nx x, y < N) (hc : c < N) : Ra N nx ban c d (k + 1) 0 [] ∧ ∀ x v : Nat, d[x]? = some v → v ≤ k + 1 := by
  have hN : ∀ {m x : Nat}, Fw nx ban c m x → x < N := by
    intro m x hw
    cases hw with
    | base => exact hc
    | step _ h2 _ => exact hnx _ _ h2
  refine ⟨⟨h.len, h.pos, fun m x hm hx hw => ?_, fun x v hv => Nat.le_succ_of_le (h.top x v hv), h.beg, fun b hb => by omega, fun _ y hy => by simp at hy⟩, h.top⟩
  by_cases hmk : m + 1 ≤ k
  · exact h.low m x hmk hx hw
  · obtain rfl : k = m := by omega
    cases hw with
    | base => exact ⟨0, h.beg⟩
    | step h1 h2 h3 =>
      rename_i n z
      obtain ⟨v, hv⟩ := h.low n z (Nat.le_refl _) (hN h1) h1
      obtain ⟨h4, h5⟩ := h.pos z v hv
      by_cases e : v = n
      · subst e
        exact h.done z (hN h1) hv x h2 h3
      · have := h5 n h1
        exact h.low (v + 1) x (by omega) hx (.step h4 h2 h3)

/-- The nearest ways are short. -/
theorem short_way (hnx : ∀ x, ∀ y ∈ nx x, y < N) (hc : c < N) : ∀ {v x : Nat}, Fw nx ban c v x → (∀ m, Fw nx ban c m x → v ≤ m) → ∃ L : List Nat, L.length = v + 1 ∧ L.Nodup ∧ ∀ y ∈ L, y < N ∧ ∃ m, m ≤ v ∧ Fw nx ban c m y := by
  intro v x hw
  induction hw with
  | base => exact fun _ => ⟨[c], rfl, by simp, fun y hy => by obtain rfl : y = c := by simpa using hy
                                                              exact ⟨hc, 0, Nat.le_refl _, .base⟩⟩
  | step h1 h2 h3 ih =>
    rename_i n z y
    intro hmin
    obtain ⟨L, l1, l2, l3⟩ := ih (fun m hm => by have := hmin (m + 1) (.step hm h2 h3); omega)
    refine ⟨L ++ [y], by simp [l1], ?_, fun u hu => ?_⟩
    · rw [List.nodup_append]
      refine ⟨l2, by simp, fun p hp q hq => ?_⟩
      obtain rfl : q = y := by simpa using hq
      rintro rfl
      obtain ⟨_, m, hm, hw⟩ := l3 p hp
      have := hmin m hw
      omega
    · rcases List.mem_append.1 hu with h4 | h4
      · obtain ⟨h5, m, h6, h7⟩ := l3 u h4
        exact ⟨h5, m, by omega, h7⟩
      · obtain rfl : u = y := by simpa using h4
        exact ⟨hnx _ _ h2, n + 1, Nat.le_refl _, .step h1 h2 h3⟩
theorem short_lt (hnx : ∀ x, ∀ y ∈ nx x, y < N) (hc : c < N) {v x : Nat} (hw : Fw nx ban c v x) (hmin : ∀ m, Fw nx ban c m x → v ≤ m) : v < N := by
  obtain ⟨L, l1, l2, l3⟩ := short_way hnx hc hw hmin
  have := nodup_lt l2 (n := N) (fun x hx => (l3 x hx).1)
  omega
theorem near {v x : Nat} (hw : Fw nx ban c v x) : ∃ u, u ≤ v ∧ Fw nx ban c u x ∧ ∀ m, Fw nx ban c m x → u ≤ m := by
  induction v using Nat.strongRecOn with
  | _ v ih =>
    by_cases h : ∃ m, m < v ∧ Fw nx ban c m x
    · obtain ⟨m, h1, h2⟩ := h
      obtain ⟨u, h3, h4⟩ := ih m h1 h2
      exact ⟨u, by omega, h4⟩
    · refine ⟨v, Nat.le_refl _, hw, fun m hm => ?_⟩
      rcases Nat.lt_or_ge m v with h1 | h1
      · exact absurd ⟨m, h1, hm⟩ h
      · exact h1
/-- All levels done. -/
theorem Ra.all {far : Nat} (h : Ra N nx ban c d k 0 []) (ht : ∀ x v : Nat, d[x]? = some v → v ≤ k) (hnx : ∀ x, ∀ y ∈ nx x, y < N) (hc : c < N) (hk : k ≤ far + 1) (hkk : far < k ∨ N < k) (x : Nat) : (∃ v : Nat, d[x]? = some (v + 1)) ↔ ∃ n, n ≤ far ∧ Fw nx ban c n x := by
  constructor
  · rintro ⟨v, hv⟩
    obtain ⟨h1, h2⟩ := h.pos x v hv
    have h3 := ht x _ hv
    exact ⟨v, by omega, h1⟩
  · rintro ⟨n, hn, hw⟩
    obtain ⟨u, h1, h2, h3⟩ := near hw
    have h4 := short_lt hnx hc h2 h3
    have hx : x < N := by
      cases h2 with
      | base => exact hc
      | step _ h5 _ => exact hnx _ _ h5
    exact h.low u x (by omega) hx h2
end
end Go.Proofs.YtkfijjjnidiejaaDoor.Rq
