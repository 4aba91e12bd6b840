/-
  Pure: joints are those that hold others together.
-/
import Derived.Test.YtlcadkhhpnaofaaGMir
import Derived.Test.YtlcadkhhpnaofaaGFal
namespace Gq

def adj (R : Gr) (v : Nat) : List Nat := row R v ++ row (bkF R) v
theorem mem_adj {R : Gr} (hO : Ok R) {u v : Nat} : u ∈ adj R v ↔ u ∈ row R v ∨ v ∈ row R u := by
  unfold adj; rw [List.mem_append, mem_bkF hO]
theorem adj_symm {R : Gr} (hO : Ok R) {u v : Nat} (h : u ∈ adj R v) : v ∈ adj R u := by
  rw [mem_adj hO] at h ⊢; exact h.symm
theorem adj_lt {R : Gr} (hO : Ok R) {u v : Nat} (h : u ∈ adj R v) : u < R.length := by
  rw [mem_adj hO] at h
  rcases h with h | h
  · exact hO.node _ _ h
  · exact row_lt h
theorem adj_back {R : Gr} (hO : Ok R) {u v : Nat} : u ∈ adj (bkF R) v ↔ u ∈ adj R v := by
  rw [mem_adj (bkF_ok hO), mem_adj hO, mem_bkF hO, mem_bkF hO]
  exact ⟨Or.symm, Or.symm⟩

/-- A loose way within a set. -/
inductive Cin (R : Gr) (S : Nat → Prop) : Nat → Nat → Prop
  | refl {a : Nat} : S a → Cin R S a a
  | head {a c b : Nat} : S a → c ∈ adj R a → Cin R S c b → Cin R S a b
theorem Cin.first {R : Gr} {S : Nat → Prop} {a b : Nat} (h : Cin R S a b) : S a := by cases h <;> assumption
theorem Cin.last {R : Gr} {S : Nat → Prop} {a b : Nat} (h : Cin R S a b) : S b := by
  induction h with
  | refl h => exact h
  | head _ _ _ ih => exact ih
theorem Cin.trans {R : Gr} {S : Nat → Prop} {a b c : Nat} (h : Cin R S a b) (k : Cin R S b c) : Cin R S a c := by
  induction h with
  | refl _ => exact k
  | head ha hc _ ih => exact .head ha hc (ih k)
theorem Cin.mono {R : Gr} {S S' : Nat → Prop} {a b : Nat} (h : Cin R S a b) (hS : ∀ x, S x → S' x) : Cin R S' a b := by
  induction h with
  | refl h => exact .refl (hS _ h)
  | head ha hc _ ih => exact .head (hS _ ha) hc ih
theorem Cin.symm {R : Gr} (hO : Ok R) {S : Nat → Prop} {a b : Nat} (h : Cin R S a b) : Cin R S b a := by
  induction h with
  | refl h => exact .refl h
  | head ha hc hp ih => exact ih.trans (.head hp.first (adj_symm hO hc) (.refl ha))
theorem Cin.back {R : Gr} (hO : Ok R) {S : Nat → Prop} {a b : Nat} (h : Cin R S a b) : Cin (bkF R) S a b := by
  induction h with
  | refl h => exact .refl h
  | head ha hc _ ih => exact .head ha ((adj_back hO).2 hc) ih
theorem Cin.forth {R : Gr} (hO : Ok R) {S : Nat → Prop} {a b : Nat} (h : Cin (bkF R) S a b) : Cin R S a b := by
  induction h with
  | refl h => exact .refl h
  | head ha hc _ ih => exact .head ha ((adj_back hO).1 hc) ih
/-- Joined beside v; joined at all; v holds some together. -/
abbrev Con (R : Gr) (v : Nat) : Nat → Nat → Prop := Cin R (fun y => y ≠ v)
abbrev Joined (R : Gr) : Nat → Nat → Prop := Cin R (fun _ => True)
def Cut (R : Gr) (v : Nat) : Prop := ∃ x y, x ≠ v ∧ y ≠ v ∧ Joined R x v ∧ Joined R y v ∧ ¬ Con R v x y
theorem cut_back {R : Gr} (hO : Ok R) {v : Nat} : Cut (bkF R) v ↔ Cut R v :=
  ⟨fun ⟨x, y, h1, h2, h3, h4, h5⟩ => ⟨x, y, h1, h2, h3.forth hO, h4.forth hO, fun h => h5 (h.back hO)⟩,
   fun ⟨x, y, h1, h2, h3, h4, h5⟩ => ⟨x, y, h1, h2, h3.back hO, h4.back hO, fun h => h5 (h.forth hO)⟩⟩

structure FInv (R : Gr) (G : Nat → Prop) (s : FS) : Prop where
  len : s.met.length = R.length
  top : ∀ u, nv s.met u ≤ s.turn
  gray : ∀ u, G u → 0 < nv s.met u
  clo : ∀ u, 0 < nv s.met u → ¬ G u → ∀ c ∈ adj R u, 0 < nv s.met c
  jt : ∀ w, w ∈ s.joints ↔ 0 < nv s.met w ∧ ¬ G w ∧ Cut R w
  nd : s.joints.Nodup
  one : ∀ g g', G g → G g' → Cin R G g g'
structure FPost (R : Gr) (G : Nat → Prop) (s s' : FS) (v low : Nat) (S : Nat → Prop) : Prop where
  inv : FInv R G s'
  vis : ∀ u, 0 < nv s'.met u ↔ 0 < nv s.met u ∨ S u
  new : ∀ u, S u → nv s.met u = 0
  hasv : S v
  cin : ∀ u, S u → Cin R S v u
  keep : ∀ u, 0 < nv s.met u → nv s'.met u = nv s.met u
  num : ∀ u, S u → s.turn < nv s'.met u
  vnum : nv s'.met v = s.turn + 1
  turn : s.turn ≤ s'.turn
  low : ∀ m, m ≤ low ↔ m ≤ s.turn + 1 ∧ ∀ u, S u → ∀ c ∈ adj R u, m ≤ nv s'.met c
def Sep (R : Gr) (v : Nat) (T D : Nat → Prop) : Prop := (∃ c, D c) ∧ (∀ u, D u → T u) ∧ ∀ u, D u → ∀ e ∈ adj R u, D e ∨ e = v
theorem Sep.mono {R : Gr} {v : Nat} {T T' D : Nat → Prop} (h : Sep R v T D) (hT : ∀ u, T u → T' u) : Sep R v T' D := ⟨h.1, fun u hu => hT u (h.2.1 u hu), h.2.2⟩
structure FLoop (R : Gr) (G : Nat → Prop) (s : FS) (v : Nat) (T : Nat → Prop) (done : List Nat) (low kids : Nat) (st : FS) : Prop where
  inv : FInv R (fun u => G u ∨ u = v) st
  vis : ∀ u, 0 < nv st.met u ↔ 0 < nv s.met u ∨ u = v ∨ T u
  new : ∀ u, T u → nv s.met u = 0 ∧ u ≠ v
  cin : ∀ u, T u → Cin R (fun y => y = v ∨ T y) v u
  keep : ∀ u, 0 < nv s.met u → nv st.met u = nv s.met u
  num : ∀ u, T u → s.turn < nv st.met u
  vnum : nv st.met v = s.turn + 1
  turn : s.turn + 1 ≤ st.turn
  seen : ∀ c ∈ done, 0 < nv st.met c
  low : ∀ m, m ≤ low ↔ m ≤ s.turn + 1 ∧ (∀ u, T u → ∀ c ∈ adj R u, m ≤ nv st.met c) ∧ ∀ c ∈ done, m ≤ nv st.met c
  k0 : kids = 0 → ∀ u, T u → ∃ g, G g ∧ Con R v u g
  k1 : 1 ≤ kids → ∃ D, Sep R v T D
  k1r : kids ≤ 1 → (∀ g, ¬ G g) → ∃ c, ∀ u, T u → Con R v c u
  k2 : 2 ≤ kids → ∃ D c', Sep R v T D ∧ T c' ∧ ¬ D c'

theorem FLoop.met {R : Gr} {G : Nat → Prop} {s st : FS} {v low kids to : Nat} {T : Nat → Prop} {done : List Nat} (h : FLoop R G s v T done low kids st) (hto : 0 < nv st.met to) : FLoop R G s v T (done ++ [to]) (min low (nv st.met to)) kids st := by
  refine ⟨h.inv, h.vis, h.new, h.cin, h.keep, h.num, h.vnum, h.turn, fun c hc => ?_, fun m => ?_, h.k0, h.k1, h.k1r, h.k2⟩
  · rcases List.mem_append.1 hc with hc | hc
    · exact h.seen c hc
    · simp at hc; subst hc; exact hto
  · rw [Nat.le_min, h.low]
    constructor
    · rintro ⟨⟨h1, h2, h3⟩, h4⟩
      refine ⟨h1, h2, fun c hc => ?_⟩
      rcases List.mem_append.1 hc with hc | hc
      · exact h3 c hc
      · simp at hc; subst hc; exact h4
    · rintro ⟨h1, h2, h3⟩
      exact ⟨⟨h1, h2, fun c hc => h3 c (by simp [hc])⟩, h3 to (by simp)⟩

theorem FLoop.kid {R : Gr} (hO : Ok R) {G : Nat → Prop} {s st st' : FS} {v low kids to lo : Nat} {T S : Nat → Prop} {done : List Nat} (hs : FInv R G s) (hv : nv s.met v = 0) (hto : to ∈ adj R v)
    (h : FLoop R G s v T done low kids st) (k : FPost R (fun u => G u ∨ u = v) st st' to lo S) :
    FLoop R G s v (fun u => T u ∨ S u) (done ++ [to]) (min low lo) (if nv st'.met v ≤ lo then kids + 1 else kids) st' := by
  have hGv : ¬ G v := fun hh => by have := hs.gray v hh; omega
  have visv : 0 < nv st.met v := by rw [h.vnum]; omega
  have newS : ∀ u, S u → nv s.met u = 0 ∧ u ≠ v ∧ ¬ T u := by
    intro u hu
    have h1 := k.new u hu
    have h2 : ¬ (0 < nv s.met u ∨ u = v ∨ T u) := fun hh => by have := (h.vis u).2 hh; omega
    refine ⟨?_, fun e => h2 (.inr (.inl e)), fun e => h2 (.inr (.inr e))⟩
    rcases Nat.eq_zero_or_pos (nv s.met u) with e | e
    · exact e
    · exact absurd (.inl e) h2
  have visT : ∀ u, T u → 0 < nv st.met u := fun u hu => (h.vis u).2 (.inr (.inr hu))
  have notG : ∀ u, nv s.met u = 0 ∧ u ≠ v → ¬ (G u ∨ u = v) := fun u hu hh => by
    rcases hh with hh | hh
    · have := hs.gray u hh; omega
    · exact hu.2 hh
  have keepT : ∀ u, T u → ∀ c ∈ adj R u, nv st'.met c = nv st.met c := fun u hu c hc => k.keep c (h.inv.clo u (visT u hu) (notG u (h.new u hu)) c hc)
  have around : ∀ u, S u → ∀ e ∈ adj R u, S e ∨ e = v ∨ G e := by
    intro u hu e he
    have h1 : 0 < nv st'.met e := k.inv.clo u ((k.vis u).2 (.inr hu)) (notG u ⟨(newS u hu).1, (newS u hu).2.1⟩) e he
    rcases (k.vis e).1 h1 with h2 | h2
    · by_cases hg : G e ∨ e = v
      · exact .inr hg.symm
      · have h3 := h.inv.clo e h2 hg u (adj_symm hO he)
        have h4 := k.new u hu
        omega
    · exact .inl h2
  have sCon : ∀ a b, Cin R S a b → Con R v a b := fun a b hp => hp.mono (fun x hx => (newS x hx).2.1)
  have numv : nv st'.met v = s.turn + 1 := by rw [k.keep v visv, h.vnum]
  have numG : ∀ g, G g → nv st'.met g ≤ s.turn := fun g hg => by
    have h1 := hs.gray g hg
    rw [k.keep g ((h.vis g).2 (.inl h1)), h.keep g h1]
    exact hs.top g
  refine ⟨k.inv, fun u => ?_, fun u hu => ?_, fun u hu => ?_, fun u hu => ?_, fun u hu => ?_, numv, Nat.le_trans h.turn k.turn, fun c hc => ?_, fun m => ?_, ?_, ?_, ?_, ?_⟩
  · rw [k.vis, h.vis]
    constructor
    · rintro ((h1 | h1 | h1) | h1)
      · exact .inl h1
      · exact .inr (.inl h1)
      · exact .inr (.inr (.inl h1))
      · exact .inr (.inr (.inr h1))
    · rintro (h1 | h1 | h1 | h1)
      · exact .inl (.inl h1)
      · exact .inl (.inr (.inl h1))
      · exact .inl (.inr (.inr h1))
      · exact .inr h1
  · rcases hu with hu | hu
    · exact h.new u hu
    · exact ⟨(newS u hu).1, (newS u hu).2.1⟩
  · rcases hu with hu | hu
    · exact (h.cin u hu).mono (fun x hx => hx.elim .inl (fun h => .inr (.inl h)))
    · exact .head (.inl rfl) hto ((k.cin u hu).mono (fun x hx => .inr (.inr hx)))
  · rw [k.keep u ((h.vis u).2 (.inl hu)), h.keep u hu]
  · rcases hu with hu | hu
    · rw [k.keep u (visT u hu)]; exact h.num u hu
    · have := k.num u hu; have := h.turn; omega
  · rcases List.mem_append.1 hc with hc | hc
    · exact (k.vis c).2 (.inl (h.seen c hc))
    · simp at hc; subst hc; exact (k.vis _).2 (.inr k.hasv)
  · rw [Nat.le_min, h.low, k.low]
    constructor
    · rintro ⟨⟨h1, h2, h3⟩, h4, h5⟩
      refine ⟨h1, fun u hu c hc => ?_, fun c hc => ?_⟩
      · rcases hu with hu | hu
        · rw [keepT u hu c hc]; exact h2 u hu c hc
        · exact h5 u hu c hc
      · rcases List.mem_append.1 hc with hc | hc
        · rw [k.keep c (h.seen c hc)]; exact h3 c hc
        · simp at hc; subst hc; rw [k.vnum]; exact h4
    · rintro ⟨h1, h2, h3⟩
      refine ⟨⟨h1, fun u hu c hc => ?_, fun c hc => ?_⟩, ?_, fun u hu c hc => h2 u (.inr hu) c hc⟩
      · rw [← keepT u hu c hc]; exact h2 u (.inl hu) c hc
      · rw [← k.keep c (h.seen c hc)]; exact h3 c (by simp [hc])
      · have := h.turn; omega
  all_goals
    by_cases hc : nv st'.met v ≤ lo
    · rw [if_pos hc]
      have hsep : ∀ u, S u → ∀ e ∈ adj R u, S e ∨ e = v := by
        intro u hu e he
        rcases around u hu e he with h1 | h1 | h1
        · exact .inl h1
        · exact .inr h1
        · have h2 := ((k.low _).1 hc).2 u hu e he
          have h3 := numG e h1
          omega
      have hSep : Sep R v (fun u => T u ∨ S u) S := ⟨⟨to, k.hasv⟩, fun u hu => .inr hu, hsep⟩
      first
        | (intro h1; omega)
        | (intro _; exact ⟨S, hSep⟩)
        | (intro h1 hG
           refine ⟨to, fun u hu => ?_⟩
           rcases hu with hu | hu
           · obtain ⟨g, hg, _⟩ := h.k0 (by omega) u hu
             exact absurd hg (hG g)
           · exact sCon _ _ (k.cin u hu))
        | (intro h1
           obtain ⟨D, hD⟩ := h.k1 (by omega)
           exact ⟨D, to, hD.mono (fun u hu => .inl hu), .inr k.hasv, fun hh => (newS to k.hasv).2.2 (hD.2.1 to hh)⟩)
    · rw [if_neg hc]
      have hout : ∃ u, S u ∧ ∃ e, e ∈ adj R u ∧ G e := by
        apply Classical.byContradiction
        intro hn
        apply hc
        rw [numv, k.low]
        refine ⟨by have := h.turn; omega, fun u hu c hcc => ?_⟩
        rcases around u hu c hcc with h1 | h1 | h1
        · have := k.num c h1; have := h.turn; omega
        · subst h1; rw [numv]; exact Nat.le_refl _
        · exact absurd ⟨u, hu, c, hcc, h1⟩ hn
      obtain ⟨u0, hu0, e0, he0, hg0⟩ := hout
      have hall : ∀ u, S u → Con R v u e0 := fun u hu =>
        (sCon _ _ (((k.cin u hu).symm hO).trans (k.cin u0 hu0))).trans (.head (newS u0 hu0).2.1 he0 (.refl (fun e => hGv (e ▸ hg0))))
      first
        | (intro h1 u hu
           rcases hu with hu | hu
           · exact h.k0 h1 u hu
           · exact ⟨e0, hg0, hall u hu⟩)
        | (intro h1
           obtain ⟨D, hD⟩ := h.k1 h1
           exact ⟨D, hD.mono (fun u hu => .inl hu)⟩)
        | (intro _ hG; exact absurd hg0 (hG e0))
        | (intro h1
           obtain ⟨D, c', hD, h2, h3⟩ := h.k2 h1
           exact ⟨D, c', hD.mono (fun u hu => .inl hu), .inl h2, h3⟩)
end Gq
