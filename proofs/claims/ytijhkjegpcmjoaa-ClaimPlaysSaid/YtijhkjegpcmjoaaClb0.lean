/-
  Records of cells that were claimed, read back: plain.
-/
import Derived.Test.YtijhkjegpcmjoaaClh
import Derived.Test.YtijhkjegpcmjoaaCl9
namespace Go.Proofs.Ytijhkjegpcmjoaa
set_option maxRecDepth 100000
set_option linter.unusedSimpArgs false
open Go Go.RowKit Cl

namespace Cl
theorem ris_ext : ∀ {a b : List Cm}, Ris a → Ris b → (∀ x, x ∈ a ↔ x ∈ b) → a = b
  | [], [], _, _, _ => rfl
  | [], y :: b, _, _, h => absurd ((h y).2 List.mem_cons_self) (by simp)
  | x :: a, [], _, _, h => absurd ((h x).1 List.mem_cons_self) (by simp)
  | x :: a, y :: b, ha, hb, h => by
    have ha' := List.pairwise_cons.1 ha
    have hb' := List.pairwise_cons.1 hb
    have e : x = y := by
      rcases List.mem_cons.1 ((h x).1 List.mem_cons_self) with e | e
      · exact e
      · have h1 := hb'.1 x e
        rcases List.mem_cons.1 ((h y).2 List.mem_cons_self) with e2 | e2
        · exact e2.symm
        · have := ha'.1 y e2; omega
    subst e
    rw [ris_ext ha'.2 hb'.2 (fun z => ?_)]
    constructor
    · intro hz
      rcases List.mem_cons.1 ((h z).1 (List.mem_cons_of_mem _ hz)) with e | e
      · have := ha'.1 z hz; rw [e] at this; omega
      · exact e
    · intro hz
      rcases List.mem_cons.1 ((h z).2 (List.mem_cons_of_mem _ hz)) with e | e
      · have := hb'.1 z hz; rw [e] at this; omega
      · exact e
/-- The bytes of a cell's record. -/
def dOf (s : List Cm) (c : Int) : List Int := match genO s c with | none => [] | some g => by4 g
theorem g4_by4 {g : Int} (_h : 0 ≤ g ∧ g < 4294967296) : g4 (by4 g) = g := by
  show g / 16777216 * 16777216 + g / 65536 % 256 * 65536 + g / 256 % 256 * 256 + g % 256 = g
  omega
def flt (s : List Cm) (C : List Int) : List Cm := s.filter (fun x => decide (x.c ∈ C))
theorem mem_flt {s : List Cm} {C : List Int} {x : Cm} : x ∈ flt s C ↔ x ∈ s ∧ x.c ∈ C := by simp [flt]
theorem flt_ris {s : List Cm} (h : Ris s) (C : List Int) : Ris (flt s C) := h.sublist List.filter_sublist
theorem flt_not {s : List Cm} (hr : Ris s) {C : List Int} {c : Int} (h : has s c = false) : flt s (C ++ [c]) = flt s C := by
  apply List.filter_congr
  intro x hx
  have := not_has hr h x hx
  rw [decide_eq_decide, List.mem_append, List.mem_singleton]
  constructor
  · rintro (h | h)
    · exact h
    · exact absurd h this
  · exact .inl
theorem flt_take {s : List Cm} (hok : Ok s) {C : List Int} {c : Int} (h : has s c = true) (hc : c ∉ C) : takeE (flt s C) c = 0 ∧ takeL (flt s C) ⟨c, (at_ s c).g⟩ = flt s (C ++ [c]) := by
  have hm := at_mem h
  have hac := (has_lt h).2
  have hno : has (flt s C) c = false := by
    cases e : has (flt s C) c with
    | false => rfl
    | true =>
      obtain ⟨x, hx, e2⟩ := (has_iff (flt_ris hok.ris C)).1 e
      rw [mem_flt, e2] at hx
      exact absurd hx.2 hc
  have hins : ins (flt s C) ⟨c, (at_ s c).g⟩ = flt s (C ++ [c]) := by
    refine ris_ext ((flt_ris hok.ris C).ins (x := ⟨c, (at_ s c).g⟩) (not_has (flt_ris hok.ris C) hno)) (flt_ris hok.ris _) (fun x => ?_)
    rw [mem_ins, mem_flt, mem_flt, List.mem_append, List.mem_singleton]
    constructor
    · rintro (rfl | ⟨h1, h2⟩)
      · refine ⟨?_, .inr rfl⟩
        have : (⟨c, (at_ s c).g⟩ : Cm) = at_ s c := by
          generalize at_ s c = y at hac ⊢
          cases y
          simp only at hac ⊢
          rw [hac]
        rw [this]; exact hm
      · exact ⟨h1, .inl h2⟩
    · rintro ⟨h1, h2 | h2⟩
      · exact .inr ⟨h1, h2⟩
      · left
        have h3 := (idx_mem hok.ris h1).2
        rw [h2] at h3
        rw [h3]
        cases x
        simp only at h2 ⊢
        rw [h2]
  have hlen : (flt s C).length ≠ 16 := by
    have h1 : (flt s (C ++ [c])).length ≤ 16 := Nat.le_trans (List.length_filter_le _ _) hok.len
    rw [← hins, ins_length] at h1
    omega
  have he : takeE (flt s C) c = 0 := by
    rw [takeE_zero]
    refine ⟨?_, hno, hlen⟩
    obtain ⟨c1, c2⟩ := hok.cel _ hm
    rw [hac] at c1 c2
    unfold isC
    rw [decide_eq_true c1, decide_eq_true c2]; rfl
  refine ⟨he, ?_⟩
  unfold takeL
  rw [if_pos he, hins]
/-- Records that are those of cells. -/
def Recs (s : List Cm) (C : List Int) (l : List Rc) : Prop := l.length = C.length ∧ ∀ j, j < l.length → (l.getD j default).k = 2 ∧ (l.getD j default).n = C.getD j 0 ∧ (l.getD j default).d = dOf s (C.getD j 0)
theorem ldF_recs {s : List Cm} (hok : Ok s) {C : List Int} (hn : C.Nodup) (hC : ∀ c ∈ C, 0 ≤ c ∧ c < 1024) {l : List Rc} (h : Recs s C l) : ∀ j, j ≤ l.length → ldF (l.take j) = some ⟨flt s (C.take j), 0, C.take j⟩
  | 0, _ => by
    have : flt s [] = [] := by
      unfold flt
      rw [List.filter_eq_nil_iff]
      intro x _; simp
    simp [ldF, this]
  | j + 1, hj => by
    have ih := ldF_recs hok hn hC h j (by omega)
    have hjC : j < C.length := by rw [← h.1]; omega
    obtain ⟨hk, hnn, hd⟩ := h.2 j (by omega)
    have hcj : C.getD j 0 = C[j] := by simp [List.getD, hjC]
    have hmem : C[j] ∈ C := List.getElem_mem hjC
    have hni : C[j] ∉ C.take j := by
      intro hx
      obtain ⟨i, hi, e⟩ := List.mem_take_iff_getElem.1 hx
      have := (List.nodup_iff_pairwise_ne.1 hn)
      exact List.pairwise_iff_getElem.1 this i j (by omega) hjC (by omega) e
    have hct : C.take (j + 1) = C.take j ++ [C[j]] := List.take_succ_eq_append_getElem hjC
    refine ldF_step (by omega) ih ?_
    rw [hcj] at hnn hd
    obtain ⟨r1, r2⟩ := hC _ hmem
    have hisC : isC C[j] = true := by unfold isC; rw [decide_eq_true r1, decide_eq_true r2]; rfl
    unfold ld1
    rw [if_neg (by rw [hk]; decide)]
    unfold upd recOk
    rw [hnn, hd, hisC, decide_eq_false hni, hct]
    unfold dOf genO
    cases hh : has s C[j] with
    | true =>
      obtain ⟨t1, t2⟩ := flt_take hok (C := C.take j) hh hni
      have hg := hok.gen _ (at_mem hh)
      simp only [if_true]
      rw [if_pos (by rfl)]
      show some (LS.mk (if (by4 (at_ s C[j]).g).length = 4 then _ else _) _ _) = _
      have hl4 : (by4 (at_ s C[j]).g).length = 4 := rfl
      rw [if_pos hl4, if_pos hl4, g4_by4 hg, t1, t2]
    | false =>
      simp only [Bool.false_eq_true, if_false]
      rw [if_pos (by rfl)]
      show some (LS.mk (if ([] : List Int).length = 4 then _ else _) _ _) = _
      rw [if_neg (by decide), if_neg (by decide), flt_not hok.ris hh]
/-- The claims come back. -/
theorem ldR_recs {s : List Cm} (hok : Ok s) {C : List Int} (hn : C.Nodup) (hC : ∀ c ∈ C, 0 ≤ c ∧ c < 1024) (hs : ∀ x ∈ s, x.c ∈ C) {l : List Rc} (h : Recs s C l) : ldR l = (0, s) := by
  have := ldF_recs hok hn hC h l.length (Nat.le_refl _)
  rw [List.take_length, h.1, List.take_length] at this
  unfold ldR
  rw [this]
  have e : flt s C = s := by
    unfold flt
    rw [List.filter_eq_self]
    intro x hx
    simpa using hs x hx
  simp only [if_true]
  rw [e]
theorem Recs.snoc {s : List Cm} {C : List Int} {l : List Rc} {c : Int} {A : Option Addr} {cap : Nat} (h : Recs s C l) : Recs s (C ++ [c]) (l ++ [⟨2, c, dOf s c, A, cap⟩]) := by
  refine ⟨by simp [h.1], fun j hj => ?_⟩
  rw [List.length_append] at hj
  rcases Nat.lt_or_ge j l.length with h1 | h1
  · have e1 : (l ++ [(⟨2, c, dOf s c, A, cap⟩ : Rc)]).getD j default = l.getD j default := by simp [List.getD, List.getElem?_append_left h1]
    have e2 : (C ++ [c]).getD j 0 = C.getD j 0 := by simp [List.getD, List.getElem?_append_left (show j < C.length by rw [← h.1]; exact h1)]
    rw [e1, e2]
    exact h.2 j h1
  · have e : j = l.length := by simp at hj; omega
    have e1 : (l ++ [(⟨2, c, dOf s c, A, cap⟩ : Rc)]).getD j default = ⟨2, c, dOf s c, A, cap⟩ := by rw [e]; simp [List.getD]
    have e2 : (C ++ [c]).getD j 0 = c := by rw [e, h.1]; simp [List.getD]
    rw [e1, e2]
    exact ⟨rfl, rfl, rfl⟩
end Cl
end Go.Proofs.Ytijhkjegpcmjoaa
