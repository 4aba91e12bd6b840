/-
  Pure: ways, and the order in which visits end.
-/
import Derived.Test.YtlcadkhhpnaofaaGMir
import Derived.Test.YtlcadkhhpnaofaaGBfs
namespace Gq

/-- A way along edges. -/
inductive Pth (R : Gr) : Nat → Nat → Prop
  | refl (a : Nat) : Pth R a a
  | head {a c b : Nat} : c ∈ row R a → Pth R c b → Pth R a b
theorem Pth.trans {R : Gr} {a b c : Nat} (h : Pth R a b) (k : Pth R b c) : Pth R a c := by
  induction h with
  | refl a => exact k
  | head hc _ ih => exact .head hc (ih k)
theorem Pth.one {R : Gr} {a b : Nat} (h : b ∈ row R a) : Pth R a b := .head h (.refl b)
theorem Pth.back {R : Gr} (hO : Ok R) {a b : Nat} (h : Pth R a b) : Pth (bkF R) b a := by
  induction h with
  | refl a => exact .refl a
  | head hc _ ih => exact ih.trans (.one ((mem_bkF hO).2 hc))
theorem Pth.forth {R : Gr} (hO : Ok R) {a b : Nat} (h : Pth (bkF R) b a) : Pth R a b := by
  induction h with
  | refl a => exact .refl a
  | head hc _ ih => exact ih.trans (.one ((mem_bkF hO).1 hc))
theorem Pth.lt {R : Gr} (hO : Ok R) {a b : Nat} (h : Pth R a b) (ha : a < R.length) : b < R.length := by
  induction h with
  | refl a => exact ha
  | head hc _ ih => exact ih (hO.node _ _ hc)
theorem Pth.gt {R : Gr} {a b : Nat} (h : Pth R a b) (hb : b < R.length) : a < R.length := by
  induction h with
  | refl a => exact hb
  | head hc _ _ => exact row_lt hc
/-- Who is told a distance is who is reached. -/
theorem Far.reach {R : Gr} {a : Nat} {D : List Int} (h : Far R a D) (i : Nat) : 0 ≤ dg D i ↔ Pth R a i := by
  constructor
  · intro hi
    obtain ⟨d, hd⟩ := Int.eq_ofNat_of_zero_le hi
    clear hi
    induction d generalizing i with
    | zero => have := (h.zero i).1 (by omega); subst this; exact .refl _
    | succ d ih =>
      obtain ⟨b, hb, e⟩ := h.pred i (by omega)
      exact (ih b (by omega)).trans (.one hb)
  · intro hp
    have h0 : 0 ≤ dg D a := by have := (h.zero a).2 rfl; omega
    have key : ∀ x y, Pth R x y → 0 ≤ dg D x → 0 ≤ dg D y := by
      intro x y hp
      induction hp with
      | refl _ => exact id
      | head hc _ ih => exact fun hx => ih (h.step _ _ hc hx).1
    exact key a i hp h0

/-- A way within a set. -/
inductive PIn (R : Gr) (S : Nat → Prop) : Nat → Nat → Prop
  | refl {a : Nat} : S a → PIn R S a a
  | head {a c b : Nat} : S a → c ∈ row R a → PIn R S c b → PIn R S a b
theorem PIn.pth {R : Gr} {S : Nat → Prop} {a b : Nat} (h : PIn R S a b) : Pth R a b := by
  induction h with
  | refl _ => exact .refl _
  | head _ hc _ ih => exact .head hc ih
theorem PIn.first {R : Gr} {S : Nat → Prop} {a b : Nat} (h : PIn R S a b) : S a := by cases h <;> assumption

structure Dfs (R : Gr) (s : Mt × List Nat) : Prop where
  len : s.1.length = R.length
  nd : s.2.Nodup
  met : ∀ u ∈ s.2, mtb s.1 u = true
  clo : ∀ u ∈ s.2, ∀ c ∈ row R u, mtb s.1 c = true
  good : ∀ L1 h L2, s.2 = L1 ++ h :: L2 → ∀ x, PIn R (fun y => y ∈ L1 ++ [h]) x h → Pth R h x
/-- What a visit adds. -/
structure Adds (R : Gr) (from_ : Nat → Prop) (s s' : Mt × List Nat) (N : List Nat) : Prop where
  dfs : Dfs R s'
  lst : s'.2 = s.2 ++ N
  new : ∀ u ∈ N, mtb s.1 u = false ∧ from_ u
  met : ∀ i, mtb s'.1 i = true ↔ mtb s.1 i = true ∨ i ∈ N

theorem adds_list {R : Gr} (hO : Ok R) (f : Nat) (IH : ∀ (v : Nat) (s : Mt × List Nat), Dfs R s → v < R.length → mtb s.1 v = false → cnt s.1 ≤ f → ∃ N, v ∈ N ∧ Adds R (Pth R v) s (visF R f v s) N) :
    ∀ (l : List Nat) (t : Mt × List Nat), Dfs R t → (∀ x ∈ l, x < R.length) → cnt t.1 ≤ f → ∃ N, Adds R (fun u => ∃ x ∈ l, Pth R x u) t (l.foldl (vis1 R f) t) N ∧ ∀ x ∈ l, mtb (l.foldl (vis1 R f) t).1 x = true
  | [], t, h, _, _ => ⟨[], ⟨h, by simp, by simp, by simp⟩, by simp⟩
  | x :: l, t, h, hl, hc => by
    rw [List.foldl_cons]
    have hx : x < R.length := hl x (List.mem_cons_self ..)
    have hb := visB_one hO f t h.len hx
    have h1 : ∃ N, Adds R (Pth R x) t (vis1 R f t x) N ∧ mtb (vis1 R f t x).1 x = true := by
      unfold vis1
      split
      · rename_i hm
        exact ⟨[], ⟨h, by simp, by simp, by simp⟩, hm⟩
      · rename_i hm
        obtain ⟨N, hv, hN⟩ := IH x t h hx (by simpa using hm) hc
        exact ⟨N, hN, (hN.met x).2 (.inr hv)⟩
    obtain ⟨N1, a1, m1⟩ := h1
    obtain ⟨N2, a2, m2⟩ := adds_list hO f IH l (vis1 R f t x) a1.dfs (fun y hy => hl y (List.mem_cons_of_mem _ hy)) (by have := hb.2.1; omega)
    refine ⟨N1 ++ N2, ⟨a2.dfs, by rw [a2.lst, a1.lst, List.append_assoc], ?_, ?_⟩, ?_⟩
    · intro u hu
      rcases List.mem_append.1 hu with hu | hu
      · exact ⟨(a1.new u hu).1, x, List.mem_cons_self .., (a1.new u hu).2⟩
      · obtain ⟨e, y, hy, hp⟩ := a2.new u hu
        refine ⟨?_, y, List.mem_cons_of_mem _ hy, hp⟩
        cases hm : mtb t.1 u with
        | false => rfl
        | true => rw [(a1.met u).2 (.inl hm)] at e; exact e
    · intro i
      rw [a2.met, a1.met, List.mem_append]
      constructor
      · rintro ((h | h) | h)
        · exact .inl h
        · exact .inr (.inl h)
        · exact .inr (.inr h)
      · rintro (h | h | h)
        · exact .inl (.inl h)
        · exact .inl (.inr h)
        · exact .inr h
    · intro y hy
      rcases List.mem_cons.1 hy with rfl | hy
      · exact (a2.met _).2 (.inl m1)
      · exact m2 y hy

theorem adds_any {R : Gr} (hO : Ok R) : ∀ (f v : Nat) (s : Mt × List Nat), Dfs R s → v < R.length → mtb s.1 v = false → cnt s.1 ≤ f → ∃ N, v ∈ N ∧ Adds R (Pth R v) s (visF R f v s) N
  | 0, v, s, h, hv, hm, hc => by
    have := cnt_set (by rw [h.len]; exact hv) hm
    omega
  | f + 1, v, s, h, hv, hm, hc => by
    rw [visF_succ]
    have hvl : v < s.1.length := by rw [h.len]; exact hv
    have hcs := cnt_set hvl hm
    have hset : ∀ j, mtb (s.1.set v true) j = (decide (j = v) || mtb s.1 j) := mt_set hvl
    have ht : Dfs R (s.1.set v true, s.2) := ⟨by simpa using h.len, h.nd, fun u hu => by show mtb (s.1.set v true) u = true; rw [hset, h.met u hu]; simp, fun u hu c hc => by show mtb (s.1.set v true) c = true; rw [hset, h.clo u hu c hc]; simp, h.good⟩
    obtain ⟨N, hN, hrow⟩ := adds_list hO f (adds_any hO f) (row R v) (s.1.set v true, s.2) ht (hO.node v) (by show cnt (s.1.set v true) ≤ f; omega)
    generalize (row R v).foldl (vis1 R f) (s.1.set v true, s.2) = t at *
    have hlst : t.2 = s.2 ++ N := hN.lst
    have hvs : v ∉ s.2 := fun hh => by rw [h.met v hh] at hm; cases hm
    have hnew : ∀ u ∈ N, mtb s.1 u = false ∧ u ≠ v ∧ Pth R v u := by
      intro u hu
      obtain ⟨e, y, hy, hp⟩ := hN.new u hu
      have e' : mtb (s.1.set v true) u = false := e
      rw [hset] at e'
      simp only [Bool.or_eq_false_iff, decide_eq_false_iff_not] at e'
      exact ⟨e'.2, e'.1, .head hy hp⟩
    have hvN : v ∉ N := fun hh => (hnew v hh).2.1 rfl
    have hvt : v ∉ t.2 := by rw [hlst]; simp [hvs, hvN]
    have hmet : ∀ i, mtb t.1 i = true ↔ mtb s.1 i = true ∨ i ∈ N ++ [v] := by
      intro i
      rw [hN.met]
      show mtb (s.1.set v true) i = true ∨ _ ↔ _
      rw [hset]
      simp only [Bool.or_eq_true, decide_eq_true_eq, List.mem_append, List.mem_singleton]
      constructor
      · rintro ((h | h) | h)
        · exact .inr (.inr h)
        · exact .inl h
        · exact .inr (.inl h)
      · rintro (h | h | h)
        · exact .inl (.inr h)
        · exact .inr h
        · exact .inl (.inl h)
    refine ⟨N ++ [v], by simp, ⟨⟨hN.dfs.len, ?_, ?_, ?_, ?_⟩, ?_, ?_, hmet⟩⟩
    · show (t.2 ++ [v]).Nodup
      rw [List.nodup_append]
      exact ⟨hN.dfs.nd, by simp, fun a ha b hb => by simp at hb; subst hb; exact fun e => hvt (e ▸ ha)⟩
    · intro u hu
      rcases List.mem_append.1 hu with hu | hu
      · exact hN.dfs.met u hu
      · simp at hu; subst hu; exact (hmet _).2 (.inr (by simp))
    · intro u hu c hc
      rcases List.mem_append.1 hu with hu | hu
      · exact hN.dfs.clo u hu c hc
      · simp at hu; subst hu; exact hrow c hc
    · intro L1 x L2 e y hp
      have e : t.2 ++ [v] = L1 ++ x :: L2 := e
      rcases List.eq_nil_or_concat L2 with rfl | ⟨L3, z, rfl⟩
      · have e2 := List.append_inj' e rfl
        obtain ⟨rfl, e3⟩ := e2
        simp at e3; subst e3
        have key : ∀ a b, PIn R (fun y => y ∈ t.2 ++ [v]) a b → b = v → a ∉ s.2 := by
          intro a b hp
          induction hp with
          | refl _ => rintro rfl; exact hvs
          | head ha hc hp ih =>
            intro hb hs
            rename_i a' c' b'
            have h1 := ih hb
            have h2 := hp.first
            have h3 := h.clo _ hs _ hc
            rw [hlst] at h2
            simp only [List.mem_append, List.mem_singleton] at h2
            rcases h2 with (h2 | h2) | h2
            · exact h1 h2
            · rw [(hnew _ h2).1] at h3; cases h3
            · subst h2; rw [hm] at h3; cases h3
        have h1 := key y v hp rfl
        have h2 := hp.first
        rw [hlst] at h2
        simp only [List.mem_append, List.mem_singleton] at h2
        rcases h2 with (h2 | h2) | h2
        · exact absurd h2 h1
        · exact (hnew _ h2).2.2
        · subst h2; exact .refl _
      · have e' : t.2 ++ [v] = (L1 ++ x :: L3) ++ [z] := by rw [e]; simp
        obtain ⟨e1, _⟩ := List.append_inj' e' rfl
        exact hN.dfs.good L1 x L3 e1 y hp
    · show t.2 ++ [v] = _
      rw [hlst, List.append_assoc]
    · intro u hu
      rcases List.mem_append.1 hu with hu | hu
      · exact ⟨(hnew u hu).1, (hnew u hu).2.2⟩
      · simp at hu; subst hu; exact ⟨hm, .refl _⟩
end Gq
