/-
  What was written last stands.
-/
import Derived.Test.YtgciibcngmimkaaSfI
namespace Go.Proofs.Ytgciibcngmimkaa
set_option maxRecDepth 100000
set_option linter.unusedSimpArgs false
open Go Go.RowKit Sf

theorem pl_eq {q r : Rec} (hq : may q = true) (hr : may r = true) (h : pl q = pl r) : q.k = r.k ∧ q.n = r.n := by
  rw [may_iff] at hq hr
  unfold pl at h
  omega
theorem wrM_cases (M : List Ent) (r : Rec) : (wrE M r ≠ 0 ∧ wrM M r = M) ∨ (wrE M r = 0 ∧ may r = true ∧ r.d = [] ∧ wrM M r = cutM M (pl r)) ∨ (wrE M r = 0 ∧ may r = true ∧ r.d ≠ [] ∧ wrM M r = putM M (pl r) r.d) := by
  by_cases h0 : wrE M r = 0
  · have hm : may r = true := by
      cases hm : may r with
      | true => rfl
      | false => unfold wrE at h0; rw [if_pos hm] at h0; omega
    by_cases hd : r.d = []
    · exact .inr (.inl ⟨h0, hm, hd, by unfold wrM; rw [if_neg (by omega), if_pos hd]⟩)
    · exact .inr (.inr ⟨h0, hm, hd, by unfold wrM; rw [if_neg (by omega), if_neg hd]⟩)
  · exact .inl ⟨h0, by unfold wrM; rw [if_pos h0]⟩
theorem mem_wr {M : List Ent} {q : Rec} {e : Ent} (h : e.1 ≠ pl q) : e ∈ wrM M q ↔ e ∈ M := by
  rcases wrM_cases M q with ⟨_, h1⟩ | ⟨_, _, _, h1⟩ | ⟨_, _, _, h1⟩
  · rw [h1]
  · rw [h1, mem_cut]; exact ⟨fun h2 => h2.1, fun h2 => ⟨h2, h⟩⟩
  · rw [h1, mem_put]
    exact ⟨fun h2 => by rcases h2 with rfl | h2; exact absurd rfl h; exact h2.1, fun h2 => .inr ⟨h2, h⟩⟩
theorem has_wr {M : List Ent} {q : Rec} {p : Nat} (h : p ≠ pl q) : hasM (wrM M q) p = hasM M p := by
  rw [Bool.eq_iff_iff, hasM_iff, hasM_iff]
  constructor
  · rintro ⟨e, h1, h2⟩; exact ⟨e, (mem_wr (by rw [h2]; exact h)).1 h1, h2⟩
  · rintro ⟨e, h1, h2⟩; exact ⟨e, (mem_wr (by rw [h2]; exact h)).2 h1, h2⟩
theorem get_wr {M : List Ent} (hM : Ok M) {q : Rec} (hq : ∀ c ∈ q.d, c < 256) {p : Nat} (h : p ≠ pl q) : getM (wrM M q) p = getM M p := by
  cases hh : hasM M p with
  | false => rw [getM_none hh, getM_none (by rw [has_wr h]; exact hh)]
  | true =>
    obtain ⟨e, h1, h2⟩ := hasM_iff.1 hh
    subst h2
    rw [getM_of hM.srt h1, getM_of (hM.wr hq).srt ((mem_wr h).2 h1)]
/-- What was written is there. -/
theorem own_wr {M : List Ent} (hM : Ok M) {r : Rec} (hr : ∀ c ∈ r.d, c < 256) (h0 : wrE M r = 0) : may r = true ∧ hasM (wrM M r) (pl r) = !r.d.isEmpty ∧ getM (wrM M r) (pl r) = r.d := by
  have hok := hM.wr hr
  rcases wrM_cases M r with ⟨h, _⟩ | ⟨_, hm, hd, h1⟩ | ⟨_, hm, hd, h1⟩
  · exact absurd h0 h
  · have hf : hasM (wrM M r) (pl r) = false := by
      rw [← Bool.not_eq_true, hasM_iff, h1]
      rintro ⟨e, h2, h3⟩
      exact (mem_cut.1 h2).2 h3
    refine ⟨hm, ?_, ?_⟩
    · rw [hf, hd]; rfl
    · rw [getM_none hf, hd]
  · have hin : (pl r, r.d) ∈ wrM M r := by rw [h1]; exact mem_put.2 (.inl rfl)
    refine ⟨hm, ?_, getM_of hok.srt hin⟩
    rw [show hasM (wrM M r) (pl r) = true from hasM_iff.2 ⟨_, hin, rfl⟩]
    cases hd' : r.d with
    | nil => exact absurd hd' hd
    | cons => rfl
theorem gB_may {r : Rec} (M : List Ent) (h : may r = true) : gB M r.k r.n = hasM M (pl r) ∧ gD M r.k r.n = getM M (pl r) := by
  have hm : may ⟨r.k, r.n, []⟩ = true := by rw [may_iff] at h ⊢; exact ⟨h.1, h.2.1, h.2.2.1, h.2.2.2.1, by simp⟩
  unfold gB gD
  rw [hm, if_pos rfl]
  exact ⟨rfl, rfl⟩
/-- Another place says what it said. -/
theorem g_wr {M : List Ent} (hM : Ok M) {q : Rec} (hq : ∀ c ∈ q.d, c < 256) {k n : Int} (h : ¬ (q.k = k ∧ q.n = n)) : gB (wrM M q) k n = gB M k n ∧ gD (wrM M q) k n = gD M k n := by
  rcases wrM_cases M q with ⟨_, h1⟩ | h'
  · rw [h1]; exact ⟨rfl, rfl⟩
  have hm : may q = true := by rcases h' with ⟨_, hm, _⟩ | ⟨_, hm, _⟩ <;> exact hm
  unfold gB gD
  cases hk : may ⟨k, n, []⟩ with
  | false => exact ⟨rfl, rfl⟩
  | true =>
    have hp : pl ⟨k, n, []⟩ ≠ pl q := fun e => by
      obtain ⟨h1, h2⟩ := pl_eq hk hm e
      exact h ⟨h1.symm, h2.symm⟩
    simp only [Bool.true_and, if_true]
    exact ⟨has_wr hp, get_wr hM hq hp⟩
theorem bhM_ok {l : List Rec} : ∀ {M : List Ent}, Ok M → (∀ r ∈ l, ∀ c ∈ r.d, c < 256) → Ok (bhM M l) := by
  induction l with
  | nil => intro M h _; exact h
  | cons r t ih =>
    intro M h hb
    exact ih (h.wr (hb r (by simp))) (fun q hq => hb q (by simp [hq]))
theorem g_bh {l : List Rec} {k n : Int} : ∀ {M : List Ent}, Ok M → (∀ r ∈ l, ∀ c ∈ r.d, c < 256) → (∀ q ∈ l, ¬ (q.k = k ∧ q.n = n)) → gB (bhM M l) k n = gB M k n ∧ gD (bhM M l) k n = gD M k n := by
  induction l with
  | nil => intro M _ _ _; exact ⟨rfl, rfl⟩
  | cons r t ih =>
    intro M h hb hn
    have h1 := ih (h.wr (hb r (by simp))) (fun q hq => hb q (by simp [hq])) (fun q hq => hn q (by simp [hq]))
    have h2 := g_wr h (hb r (by simp)) (hn r (by simp))
    exact ⟨h1.1.trans h2.1, h1.2.trans h2.2⟩
/-- The record written last of its place. -/
theorem last_g {a t : List Rec} {r : Rec} (hb : ∀ q ∈ a ++ r :: t, ∀ c ∈ q.d, c < 256) (h0 : bhE [] (a ++ r :: t) = 0) (ht : ∀ q ∈ t, ¬ (q.k = r.k ∧ q.n = r.n)) :
    gB (bhM [] (a ++ r :: t)) r.k r.n = !r.d.isEmpty ∧ gD (bhM [] (a ++ r :: t)) r.k r.n = r.d := by
  have hA : Ok (bhM [] a) := bhM_ok Ok.nil (fun q hq => hb q (by simp [hq]))
  have hr := hb r (by simp)
  rw [bhE_append] at h0
  have hE : bhE (bhM [] a) (r :: t) = 0 := by
    by_cases h : bhE [] a = 0
    · rwa [if_pos h] at h0
    · rw [if_neg h] at h0; exact absurd h0 h
  have hw : wrE (bhM [] a) r = 0 := by
    unfold bhE at hE
    by_cases h : wrE (bhM [] a) r = 0
    · exact h
    · rw [if_neg h] at hE; exact absurd hE h
  obtain ⟨hm, h1, h2⟩ := own_wr hA hr hw
  rw [bhM_append]
  have e : bhM (bhM [] a) (r :: t) = bhM (wrM (bhM [] a) r) t := rfl
  obtain ⟨g1, g2⟩ := g_bh (k := r.k) (n := r.n) (hA.wr hr) (fun q hq => hb q (by simp [hq])) ht
  obtain ⟨g3, g4⟩ := gB_may (wrM (bhM [] a) r) hm
  rw [e, g1, g2, g3, g4]
  exact ⟨h1, h2⟩
theorem last_at {R : List Rec} {n k : Nat} (hb : ∀ q ∈ R, ∀ c ∈ q.d, c < 256) (h0 : bhE [] (R.take n) = 0) (hk : k < n) (hn : n ≤ R.length) (ht : ∀ j, k < j → j < n → ¬ ((R.getD j ⟨0, 0, []⟩).k = (R.getD k ⟨0, 0, []⟩).k ∧ (R.getD j ⟨0, 0, []⟩).n = (R.getD k ⟨0, 0, []⟩).n)) :
    gB (bhM [] (R.take n)) (R.getD k ⟨0, 0, []⟩).k (R.getD k ⟨0, 0, []⟩).n = !(R.getD k ⟨0, 0, []⟩).d.isEmpty ∧ gD (bhM [] (R.take n)) (R.getD k ⟨0, 0, []⟩).k (R.getD k ⟨0, 0, []⟩).n = (R.getD k ⟨0, 0, []⟩).d := by
  have hl : (R.take n).length = n := by rw [List.length_take]; omega
  have hg : ∀ j, j < n → (R.take n)[j]? = some (R.getD j ⟨0, 0, []⟩) := fun j hj => by
    rw [List.getElem?_take, if_pos hj, List.getElem?_eq_getElem (by omega)]
    simp [List.getD, show j < R.length by omega]
  have e : R.take n = (R.take n).take k ++ R.getD k ⟨0, 0, []⟩ :: (R.take n).drop (k + 1) := by
    have h1 := hg k hk
    obtain ⟨h2, h3⟩ := List.getElem?_eq_some_iff.1 h1
    rw [← h3, List.getElem_cons_drop, List.take_append_drop]
  generalize hx : R.getD k ⟨0, 0, []⟩ = x at *
  rw [e] at h0 ⊢
  refine last_g (fun q hq => ?_) h0 (fun q hq => ?_)
  · rw [← e] at hq
    exact hb q (List.mem_of_mem_take hq)
  · obtain ⟨j, hj, rfl⟩ := List.mem_iff_getElem.1 hq
    rw [List.length_drop] at hj
    have h1 := hg (k + 1 + j) (by omega)
    obtain ⟨h2, h3⟩ := List.getElem?_eq_some_iff.1 h1
    rw [List.getElem_drop, h3]
    exact ht (k + 1 + j) (by omega) (by omega)
end Go.Proofs.Ytgciibcngmimkaa
