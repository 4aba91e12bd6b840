/-
  Records, and shelves of them: plain.
-/
import Derived.WalkKit
namespace Go.Proofs.Ytgciibcngmimkaa
set_option maxRecDepth 100000
set_option linter.unusedSimpArgs false
open Go Go.RowKit

namespace Sf
/-- A record as it is handed in. -/
structure Rec where
  k : Int
  n : Int
  d : List Nat
deriving DecidableEq
/-- A record of a shelf: its place, and its bytes. -/
abbrev Ent := Nat × List Nat
def may (r : Rec) : Bool := decide (0 ≤ r.k) && decide (r.k ≤ 255) && decide (0 ≤ r.n) && decide (r.n ≤ 1024) && decide (r.d.length ≤ 1024)
def pl (r : Rec) : Nat := r.k.toNat * 65536 + r.n.toNat
def toR (e : Ent) : Rec := ⟨((e.1 / 65536 : Nat) : Int), ((e.1 % 65536 : Nat) : Int), e.2⟩

structure OkE (e : Ent) : Prop where
  k : e.1 / 65536 ≤ 255
  n : e.1 % 65536 ≤ 1024
  ne : e.2 ≠ []
  len : e.2.length ≤ 1024
  by_ : ∀ c ∈ e.2, c < 256
structure Ok (M : List Ent) : Prop where
  srt : M.Pairwise (fun a b => a.1 < b.1)
  each : ∀ e ∈ M, OkE e
  len : M.length ≤ 4096

def hasM (M : List Ent) (p : Nat) : Bool := M.any (fun e => e.1 == p)
def getM (M : List Ent) (p : Nat) : List Nat := ((M.find? (fun e => e.1 == p)).map (·.2)).getD []
def cutM (M : List Ent) (p : Nat) : List Ent := M.filter (fun e => e.1 != p)
def putM (M : List Ent) (p : Nat) (d : List Nat) : List Ent := M.filter (fun e => decide (e.1 < p)) ++ (p, d) :: M.filter (fun e => decide (p < e.1))
def wrE (M : List Ent) (r : Rec) : Nat := if may r = false then 130 else if r.d = [] then 0 else if hasM M (pl r) then 0 else if 4096 ≤ M.length then 131 else 0
def wrM (M : List Ent) (r : Rec) : List Ent := if wrE M r ≠ 0 then M else if r.d = [] then cutM M (pl r) else putM M (pl r) r.d

theorem Ok.nil : Ok [] := ⟨List.Pairwise.nil, fun e h => (by cases h), by simp⟩
theorem may_iff (r : Rec) : may r = true ↔ 0 ≤ r.k ∧ r.k ≤ 255 ∧ 0 ≤ r.n ∧ r.n ≤ 1024 ∧ r.d.length ≤ 1024 := by
  unfold may; simp only [Bool.and_eq_true, decide_eq_true_eq, and_assoc]
theorem pl_div {r : Rec} (h : may r = true) : pl r / 65536 = r.k.toNat ∧ pl r % 65536 = r.n.toNat := by
  rw [may_iff] at h; unfold pl; omega
theorem toR_may {r : Rec} (h : may r = true) : toR (pl r, r.d) = r := by
  obtain ⟨h1, h2⟩ := pl_div h
  rw [may_iff] at h
  obtain ⟨k, n, d⟩ := r
  simp only [toR, Rec.mk.injEq, and_true]
  simp only [h1, h2] at *
  omega
theorem OkE.may {e : Ent} (h : OkE e) : Sf.may (toR e) = true ∧ pl (toR e) = e.1 := by
  obtain ⟨h1, h2, h3, h4, h5⟩ := h
  rw [may_iff]; unfold pl toR; simp only; omega

theorem hasM_iff {M : List Ent} {p : Nat} : hasM M p = true ↔ ∃ e ∈ M, e.1 = p := by
  unfold hasM; rw [List.any_eq_true]; simp
theorem one_of {M : List Ent} (h : M.Pairwise (fun a b => a.1 < b.1)) {a b : Ent} (ha : a ∈ M) (hb : b ∈ M) (e : a.1 = b.1) : a = b := by
  induction M with
  | nil => cases ha
  | cons x M ih =>
    obtain ⟨h1, h2⟩ := List.pairwise_cons.1 h
    rcases List.mem_cons.1 ha with rfl | ha' <;> rcases List.mem_cons.1 hb with rfl | hb'
    · rfl
    · have := h1 b hb'; omega
    · have := h1 a ha'; omega
    · exact ih h2 ha' hb'
theorem getM_of {M : List Ent} (h : M.Pairwise (fun a b => a.1 < b.1)) {e : Ent} (he : e ∈ M) : getM M e.1 = e.2 := by
  unfold getM
  cases hf : M.find? (fun x => x.1 == e.1) with
  | none =>
    have := List.find?_eq_none.1 hf e he
    simp at this
  | some x =>
    have h1 := List.mem_of_find?_eq_some hf
    have h2 := List.find?_some hf
    simp at h2
    rw [one_of h h1 he h2]; rfl
theorem getM_none {M : List Ent} {p : Nat} (h : hasM M p = false) : getM M p = [] := by
  unfold getM
  rw [List.find?_eq_none.2 ?_]; · rfl
  intro x hx
  intro e
  have : hasM M p = true := hasM_iff.2 ⟨x, hx, by simpa using e⟩
  rw [h] at this; cases this
theorem mem_cut {M : List Ent} {p : Nat} {e : Ent} : e ∈ cutM M p ↔ e ∈ M ∧ e.1 ≠ p := by
  unfold cutM; rw [List.mem_filter]; simp
theorem mem_put {M : List Ent} {p : Nat} {d : List Nat} {e : Ent} : e ∈ putM M p d ↔ e = (p, d) ∨ (e ∈ M ∧ e.1 ≠ p) := by
  unfold putM; simp only [List.mem_append, List.mem_filter, List.mem_cons, decide_eq_true_eq]
  constructor
  · rintro (⟨h1, h2⟩ | h | ⟨h1, h2⟩)
    · exact .inr ⟨h1, by omega⟩
    · exact .inl h
    · exact .inr ⟨h1, by omega⟩
  · rintro (h | ⟨h1, h2⟩)
    · exact .inr (.inl h)
    · rcases Nat.lt_or_gt_of_ne h2 with h | h
      · exact .inl ⟨h1, h⟩
      · exact .inr (.inr ⟨h1, h⟩)
theorem srt_cut {M : List Ent} (h : M.Pairwise (fun a b => a.1 < b.1)) (p : Nat) : (cutM M p).Pairwise (fun a b => a.1 < b.1) := h.sublist List.filter_sublist
theorem srt_put {M : List Ent} (h : M.Pairwise (fun a b => a.1 < b.1)) (p : Nat) (d : List Nat) : (putM M p d).Pairwise (fun a b => a.1 < b.1) := by
  unfold putM
  refine List.pairwise_append.2 ⟨h.sublist List.filter_sublist, List.pairwise_cons.2 ⟨fun x hx => ?_, h.sublist List.filter_sublist⟩, fun a ha b hb => ?_⟩
  · simpa using (List.mem_filter.1 hx).2
  · have h1 : a.1 < p := by simpa using (List.mem_filter.1 ha).2
    rcases List.mem_cons.1 hb with rfl | hb
    · exact h1
    · have : p < b.1 := by simpa using (List.mem_filter.1 hb).2
      omega
theorem len_cut (M : List Ent) (p : Nat) : (cutM M p).length ≤ M.length := List.length_filter_le _ _
theorem len_split (M : List Ent) (p : Nat) : (M.filter (fun e => decide (e.1 < p))).length + (M.filter (fun e => decide (p < e.1))).length ≤ M.length ∧ (hasM M p = true → (M.filter (fun e => decide (e.1 < p))).length + (M.filter (fun e => decide (p < e.1))).length + 1 ≤ M.length) := by
  induction M with
  | nil => exact ⟨by simp, fun h => by cases h⟩
  | cons x M ih =>
    obtain ⟨h1, h2⟩ := ih
    have hh : hasM (x :: M) p = ((x.1 == p) || hasM M p) := rfl
    rcases Nat.lt_trichotomy x.1 p with h | h | h
    · have hn : ¬ p < x.1 := by omega
      have he : (x.1 == p) = false := by simp; omega
      rw [hh, he, Bool.false_or]
      simp only [List.filter_cons, h, hn, decide_true, decide_false, if_true, Bool.false_eq_true, if_false, List.length_cons]
      exact ⟨by omega, fun h3 => by have := h2 h3; omega⟩
    · have h3 : ¬ p < x.1 := by omega
      have h4 : ¬ x.1 < p := by omega
      rw [List.filter_cons_of_neg (by simpa using h4), List.filter_cons_of_neg (by simpa using h3), List.length_cons]
      exact ⟨Nat.le_succ_of_le h1, fun _ => Nat.succ_le_succ h1⟩
    · have hn : ¬ x.1 < p := by omega
      have he : (x.1 == p) = false := by simp; omega
      rw [hh, he, Bool.false_or]
      simp only [List.filter_cons, h, hn, decide_true, decide_false, if_true, Bool.false_eq_true, if_false, List.length_cons]
      exact ⟨by omega, fun h3 => by have := h2 h3; omega⟩
theorem len_put (M : List Ent) (p : Nat) (d : List Nat) : (putM M p d).length ≤ M.length + 1 ∧ (hasM M p = true → (putM M p d).length ≤ M.length) := by
  obtain ⟨h1, h2⟩ := len_split M p
  unfold putM
  rw [List.length_append, List.length_cons]
  exact ⟨Nat.succ_le_succ h1, fun h => h2 h⟩
theorem wrE_cases (M : List Ent) (r : Rec) : wrE M r = 130 ∧ may r = false ∨ wrE M r = 0 ∧ may r = true ∧ r.d = [] ∨ wrE M r = 0 ∧ may r = true ∧ r.d ≠ [] ∧ (hasM M (pl r) = true ∨ M.length < 4096) ∨ wrE M r = 131 ∧ may r = true ∧ r.d ≠ [] ∧ hasM M (pl r) = false ∧ 4096 ≤ M.length := by
  unfold wrE
  cases h1 : may r
  · exact .inl ⟨by simp, rfl⟩
  · by_cases h2 : r.d = []
    · exact .inr (.inl ⟨by simp [h2], rfl, h2⟩)
    · cases h3 : hasM M (pl r)
      · by_cases h4 : 4096 ≤ M.length
        · exact .inr (.inr (.inr ⟨by simp [h2, h4], rfl, h2, rfl, h4⟩))
        · exact .inr (.inr (.inl ⟨by simp [h2, h4], rfl, h2, .inr (by omega)⟩))
      · exact .inr (.inr (.inl ⟨by simp [h2], rfl, h2, .inl rfl⟩))
theorem Ok.wr {M : List Ent} (h : Ok M) {r : Rec} (hb : ∀ c ∈ r.d, c < 256) : Ok (wrM M r) := by
  unfold wrM
  rcases wrE_cases M r with ⟨e, h1⟩ | ⟨e, h1, h2⟩ | ⟨e, h1, h2, h3⟩ | ⟨e, h1, h2, h3, h4⟩
  · rw [if_pos (by omega)]; exact h
  · rw [if_neg (by omega), if_pos h2]
    exact ⟨srt_cut h.srt _, fun x hx => h.each x (mem_cut.1 hx).1, Nat.le_trans (len_cut _ _) h.len⟩
  · rw [if_neg (by omega), if_neg h2]
    refine ⟨srt_put h.srt _ _, fun x hx => ?_, ?_⟩
    · rcases mem_put.1 hx with rfl | ⟨hx, _⟩
      · have := pl_div h1
        rw [may_iff] at h1
        exact ⟨by simp only; omega, by simp only; omega, h2, h1.2.2.2.2, hb⟩
      · exact h.each x hx
    · have := len_put M (pl r) r.d
      have := h.len
      rcases h3 with h3 | h3
      · have := (len_put M (pl r) r.d).2 h3; omega
      · omega
  · rw [if_pos (by omega)]; exact h

/-- A list in order is known by what it holds. -/
theorem srt_eq {l m : List Ent} (hl : l.Pairwise (fun a b => a.1 < b.1)) (hm : m.Pairwise (fun a b => a.1 < b.1)) (h : ∀ x, x ∈ l ↔ x ∈ m) : l = m := by
  induction l generalizing m with
  | nil =>
    cases m with
    | nil => rfl
    | cons y m => exact absurd ((h y).2 List.mem_cons_self) (by simp)
  | cons x l ih =>
    cases m with
    | nil => exact absurd ((h x).1 List.mem_cons_self) (by simp)
    | cons y m =>
      have hl' := List.pairwise_cons.1 hl
      have hm' := List.pairwise_cons.1 hm
      have hxy : x = y := by
        rcases List.mem_cons.1 ((h x).1 List.mem_cons_self) with h1 | h1
        · exact h1
        · rcases List.mem_cons.1 ((h y).2 List.mem_cons_self) with h2 | h2
          · exact h2.symm
          · have a := hm'.1 x h1; have b := hl'.1 y h2; omega
      subst hxy
      congr 1
      refine ih hl'.2 hm'.2 fun z => ⟨fun hz => ?_, fun hz => ?_⟩
      · rcases List.mem_cons.1 ((h z).1 (List.mem_cons_of_mem _ hz)) with rfl | h1
        · have := hl'.1 z hz; omega
        · exact h1
      · rcases List.mem_cons.1 ((h z).2 (List.mem_cons_of_mem _ hz)) with rfl | h1
        · have := hm'.1 z hz; omega
        · exact h1

/-! ### bytes -/
def hdB (e : Ent) : List Nat := [e.1 / 65536, e.1 % 65536 / 256, e.1 % 256, e.2.length / 256, e.2.length % 256]
def enB (e : Ent) : List Nat := hdB e ++ e.2
def byM (M : List Ent) : List Nat := M.flatMap enB
theorem byM_nil : byM [] = [] := rfl
theorem byM_cons (e : Ent) (M : List Ent) : byM (e :: M) = enB e ++ byM M := rfl
theorem byM_snoc (M : List Ent) (e : Ent) : byM (M ++ [e]) = byM M ++ enB e := by simp [byM]
theorem enB_length (e : Ent) : (enB e).length = 5 + e.2.length := by simp [enB, hdB]; omega
theorem enB_lt {e : Ent} (h : OkE e) : ∀ c ∈ enB e, c < 256 := by
  obtain ⟨h1, h2, h3, h4, h5⟩ := h
  intro c hc
  simp only [enB, hdB, List.mem_append, List.mem_cons, List.not_mem_nil, or_false] at hc
  rcases hc with (rfl | rfl | rfl | rfl | rfl) | hc
  · omega
  · omega
  · omega
  · omega
  · omega
  · exact h5 c hc
theorem byM_lt {M : List Ent} (h : ∀ e ∈ M, OkE e) : ∀ c ∈ byM M, c < 256 := by
  intro c hc
  obtain ⟨e, he, hc⟩ := List.mem_flatMap.1 hc
  exact enB_lt (h e he) c hc
theorem enB_inj {a b : Ent} {x y : List Nat} (ha : OkE a) (hb : OkE b) (h : enB a ++ x = enB b ++ y) : a = b ∧ x = y := by
  obtain ⟨p, d⟩ := a
  obtain ⟨q, f⟩ := b
  simp only [enB, hdB, List.cons_append, List.nil_append, List.cons.injEq] at h
  obtain ⟨h0, h1, h2, h3, h4, h5⟩ := h
  have hp : p = q := by omega
  have hl : d.length = f.length := by omega
  have h6 : d ++ x = f ++ y := by simpa [List.append_assoc] using h5
  obtain ⟨rfl, rfl⟩ := List.append_inj h6 hl
  exact ⟨by rw [hp], rfl⟩
theorem byM_inj {M M' : List Ent} (h : ∀ e ∈ M, OkE e) (h' : ∀ e ∈ M', OkE e) (e : byM M = byM M') : M = M' := by
  induction M generalizing M' with
  | nil =>
    cases M' with
    | nil => rfl
    | cons y M' => have := congrArg List.length e; rw [byM_cons, List.length_append, enB_length, byM_nil, List.length_nil] at this; omega
  | cons x M ih =>
    cases M' with
    | nil => have := congrArg List.length e; rw [byM_cons, List.length_append, enB_length, byM_nil, List.length_nil] at this; omega
    | cons y M' =>
      rw [byM_cons, byM_cons] at e
      obtain ⟨rfl, e2⟩ := enB_inj (h x (by simp)) (h' y (by simp)) e
      rw [ih (fun e he => h e (by simp [he])) (fun e he => h' e (by simp [he])) e2]
/-- What is read: the records so far, the bytes left. -/
def fs (b : List Nat) : Option (Ent × List Nat) :=
  if b.length < 5 then none else if b.length < 5 + (b.getD 3 0 * 256 + b.getD 4 0) then none
  else some ((b.getD 0 0 * 65536 + (b.getD 1 0 * 256 + b.getD 2 0), (b.drop 5).take (b.getD 3 0 * 256 + b.getD 4 0)), b.drop (5 + (b.getD 3 0 * 256 + b.getD 4 0)))
/-- May it be the next one? -/
def nx (M : List Ent) (e : Ent) : Bool := !e.2.isEmpty && (M.all fun x => decide (x.1 < e.1)) && decide (e.1 % 65536 ≤ 1024) && decide (e.2.length ≤ 1024) && decide (M.length < 4096)
def rd : Nat → List Ent → List Nat → Option (List Ent)
  | 0, M, b => if b = [] then some M else none
  | f + 1, M, b => if b = [] then some M else match fs b with
    | none => none
    | some (e, r) => if nx M e then rd f (M ++ [e]) r else none
theorem fs_len {b r : List Nat} {e : Ent} (h : fs b = some (e, r)) : r.length + 5 + e.2.length = b.length := by
  unfold fs at h
  split at h
  · cases h
  · split at h
    · cases h
    · simp only [Option.some.injEq, Prod.mk.injEq] at h
      obtain ⟨rfl, rfl⟩ := h
      simp only [List.length_drop, List.length_take]; omega
theorem fs_ok {b r : List Nat} {e : Ent} (hb : ∀ c ∈ b, c < 256) (h : fs b = some (e, r)) : b = enB e ++ r ∧ e.1 / 65536 ≤ 255 ∧ (∀ c ∈ e.2, c < 256) ∧ ∀ c ∈ r, c < 256 := by
  unfold fs at h
  split at h
  · cases h
  · rename_i h5
    split at h
    · cases h
    · rename_i h6
      simp only [Option.some.injEq, Prod.mk.injEq] at h
      obtain ⟨rfl, rfl⟩ := h
      match b, h5 with
      | [], h => exact absurd (by simp) h
      | [_], h => exact absurd (by simp) h
      | [_, _], h => exact absurd (by simp) h
      | [_, _, _], h => exact absurd (by simp) h
      | [_, _, _, _], h => exact absurd (by simp) h
      | b0 :: b1 :: b2 :: b3 :: b4 :: t, _ =>
        simp only [List.getD_cons_zero, List.getD_cons_succ, List.length_cons, List.drop_succ_cons, List.drop_zero] at *
        have q0 := hb b0 (by simp)
        have q1 := hb b1 (by simp)
        have q2 := hb b2 (by simp)
        have q3 := hb b3 (by simp)
        have q4 := hb b4 (by simp)
        refine ⟨?_, by omega, fun c hc => hb c ?_, fun c hc => hb c ?_⟩
        · have hl : (t.take (b3 * 256 + b4)).length = b3 * 256 + b4 := by rw [List.length_take]; omega
          simp only [enB, hdB, hl, List.cons_append, List.nil_append]
          rw [show 5 + (b3 * 256 + b4) = (b3 * 256 + b4) + 5 by omega]
          simp only [List.drop_succ_cons, List.take_append_drop]
          refine List.cons_eq_cons.2 ⟨by omega, List.cons_eq_cons.2 ⟨by omega, List.cons_eq_cons.2 ⟨by omega, List.cons_eq_cons.2 ⟨by omega, List.cons_eq_cons.2 ⟨by omega, rfl⟩⟩⟩⟩⟩
        · have := List.mem_of_mem_take hc; simp [this]
        · rw [show 5 + (b3 * 256 + b4) = (b3 * 256 + b4) + 5 by omega] at hc
          simp only [List.drop_succ_cons] at hc
          have := List.mem_of_mem_drop hc; simp [this]
theorem fs_en {e : Ent} (h : OkE e) (r : List Nat) : fs (enB e ++ r) = some (e, r) := by
  obtain ⟨p, d⟩ := e
  obtain ⟨h1, h2, h3, h4, h5⟩ := h
  simp only at h1 h2 h3 h4 h5
  unfold fs enB hdB
  simp only [List.cons_append, List.nil_append, List.getD_cons_zero, List.getD_cons_succ, List.length_cons, List.length_append, List.drop_succ_cons, List.drop_zero]
  have e1 : d.length / 256 * 256 + d.length % 256 = d.length := by omega
  rw [if_neg (by omega), e1, if_neg (by omega)]
  rw [show 5 + d.length = d.length + 5 by omega]
  simp only [List.drop_succ_cons, List.take_left', List.drop_left']
  rw [show p / 65536 * 65536 + (p % 65536 / 256 * 256 + p % 256) = p by omega]
theorem nx_iff {M : List Ent} {e : Ent} : nx M e = true ↔ e.2 ≠ [] ∧ (∀ x ∈ M, x.1 < e.1) ∧ e.1 % 65536 ≤ 1024 ∧ e.2.length ≤ 1024 ∧ M.length < 4096 := by
  unfold nx
  simp only [Bool.and_eq_true, decide_eq_true_eq, List.all_eq_true, Bool.not_eq_true', List.isEmpty_eq_false_iff, and_assoc]
theorem Ok.snoc {M : List Ent} (h : Ok M) {e : Ent} (he : OkE e) (hn : nx M e = true) : Ok (M ++ [e]) := by
  obtain ⟨h1, h2, h3, h4, h5⟩ := nx_iff.1 hn
  refine ⟨List.pairwise_append.2 ⟨h.srt, List.pairwise_singleton _ _, fun a ha b hb => ?_⟩, fun x hx => ?_, by simp; omega⟩
  · rw [List.mem_singleton] at hb; subst hb; exact h2 a ha
  · rcases List.mem_append.1 hx with hx | hx
    · exact h.each x hx
    · rw [List.mem_singleton] at hx; subst hx; exact he
/-- What is read has those bytes. -/
theorem rd_some : ∀ (f : Nat) (M : List Ent) (b : List Nat), Ok M → (∀ c ∈ b, c < 256) → ∀ M', rd f M b = some M' → Ok M' ∧ byM M' = byM M ++ b
  | 0, M, b, hM, hb, M', h => by
    unfold rd at h
    split at h
    · rename_i e; subst e; cases h; exact ⟨hM, by simp⟩
    · cases h
  | f + 1, M, b, hM, hb, M', h => by
    unfold rd at h
    split at h
    · rename_i e; subst e; cases h; exact ⟨hM, by simp⟩
    · cases hf : fs b with
      | none => rw [hf] at h; cases h
      | some er =>
        obtain ⟨e, r⟩ := er
        rw [hf] at h
        simp only at h
        split at h
        · rename_i hn
          obtain ⟨e1, h2, h3, h4⟩ := fs_ok hb hf
          obtain ⟨n1, n2, n3, n4, n5⟩ := nx_iff.1 hn
          obtain ⟨g1, g2⟩ := rd_some f _ r (hM.snoc ⟨h2, n3, n1, n4, h3⟩ hn) h4 M' h
          exact ⟨g1, by rw [g2, byM_snoc, e1, List.append_assoc]⟩
        · cases h
theorem rd_by : ∀ (L : List Ent) (f : Nat) (M : List Ent), Ok (M ++ L) → L.length ≤ f → rd f M (byM L) = some (M ++ L)
  | [], f, M, _, _ => by cases f <;> simp [rd, byM_nil]
  | e :: L, 0, M, _, hf => by simp at hf
  | e :: L, f + 1, M, h, hf => by
    have he : OkE e := h.each e (by simp)
    have hne : byM (e :: L) ≠ [] := fun h0 => by have := congrArg List.length h0; rw [byM_cons, List.length_append, enB_length, List.length_nil] at this; omega
    unfold rd
    rw [if_neg hne, byM_cons, fs_en he]
    have hs := (List.pairwise_append.1 h.srt)
    have hn : nx M e = true := nx_iff.2 ⟨he.ne, fun x hx => hs.2.2 x hx e (by simp), he.n, he.len, by have := h.len; simp at this; omega⟩
    simp only [hn, if_true]
    have := rd_by L f (M ++ [e]) (by simpa using h) (by simp at hf; omega)
    rw [this]; simp
theorem rd_fuel : ∀ (f g : Nat) (M : List Ent) (b : List Nat), b.length ≤ f → b.length ≤ g → rd f M b = rd g M b
  | 0, 0, _, _, _, _ => rfl
  | 0, g + 1, M, b, hf, _ => by
    have : b = [] := List.eq_nil_of_length_eq_zero (by omega)
    subst this; simp [rd]
  | f + 1, 0, M, b, _, hg => by
    have : b = [] := List.eq_nil_of_length_eq_zero (by omega)
    subst this; simp [rd]
  | f + 1, g + 1, M, b, hf, hg => by
    unfold rd
    split
    · rfl
    · cases h : fs b with
      | none => rfl
      | some er =>
        obtain ⟨e, r⟩ := er
        have := fs_len h
        simp only
        rw [rd_fuel f g _ r (by omega) (by omega)]
def rdA (b : List Nat) : Option (List Ent) := rd b.length [] b
theorem rdA_by {M : List Ent} (h : Ok M) : rdA (byM M) = some M := by
  have h1 : M.length ≤ (byM M).length := by
    clear h
    induction M with
    | nil => simp
    | cons e M ih => rw [byM_cons, List.length_append, enB_length]; simp; omega
  have := rd_by M (byM M).length [] (by simpa using h) h1
  simpa [rdA] using this
theorem rdA_some {b : List Nat} (hb : ∀ c ∈ b, c < 256) {M : List Ent} (h : rdA b = some M) : Ok M ∧ byM M = b := by
  have := rd_some _ _ _ Ok.nil hb M h
  simpa [byM_nil] using this
end Sf
end Go.Proofs.Ytgciibcngmimkaa
