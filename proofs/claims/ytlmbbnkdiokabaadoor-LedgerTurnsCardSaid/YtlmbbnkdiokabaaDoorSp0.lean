/-
  Waiters, and queues of them: plain, and in memory.
-/
import Derived.Test.YtlmbbnkdiokabaaDoorHeap
import Derived.Test.YtlmbbnkdiokabaaDoorKp
import Derived.WalkKit
import Derived.WalkSpells
import Derived.WalkLawsBesides
import Derived.Below
import Derived.Laws.IdiomCopy
import Derived.Deep.Draws
import Derived.Deep.OwnRows
import Derived.Deep.RegionLaw
import Derived.Lib.Hide
namespace Go.Proofs.YtlmbbnkdiokabaaDoor
set_option maxRecDepth 100000
set_option linter.unusedSimpArgs false
open Go Go.RowKit

namespace Sp
/-- A waiter. -/
structure Wt where
  r : Int
  s : Int
  p : Int
deriving DecidableEq
def w0 : Wt := ⟨0, 0, 0⟩
def fore (a b : Wt) : Bool := if a.p = b.p then (if a.s = b.s then decide (a.r < b.r) else decide (a.s < b.s)) else decide (b.p < a.p)
def may (w : Wt) : Bool := decide (0 ≤ w.r) && decide (w.r < 64) && decide (0 ≤ w.p) && decide (w.p ≤ 15)

theorem fore_iff (a b : Wt) : fore a b = true ↔ (a.p = b.p ∧ ((a.s = b.s ∧ a.r < b.r) ∨ a.s < b.s)) ∨ b.p < a.p := by
  unfold fore
  by_cases h1 : a.p = b.p
  · by_cases h2 : a.s = b.s
    · simp [h1, h2]
    · simp [h1, h2]
  · simp [h1]
theorem fore_trans {a b c : Wt} (h : fore a b = true) (k : fore b c = true) : fore a c = true := by
  rw [fore_iff] at *; omega
theorem fore_irrefl (a : Wt) : fore a a = false := by
  have : ¬ fore a a = true := by rw [fore_iff]; omega
  simpa using this
theorem fore_total {a b : Wt} (h : a.r ≠ b.r) : fore a b = true ∨ fore b a = true := by
  rw [fore_iff, fore_iff]; omega
theorem fore_asymm {a b : Wt} (h : fore a b = true) : fore b a = false := by
  have : ¬ fore b a = true := by rw [fore_iff] at *; omega
  simpa using this

def Srt (l : List Wt) : Prop := l.Pairwise (fun a b => fore a b = true)
/-- Where one comes to stand. -/
def ins (w : Wt) (l : List Wt) : List Wt := l.take (l.findIdx (fore w)) ++ w :: l.drop (l.findIdx (fore w))
theorem ins_nil (w : Wt) : ins w [] = [w] := rfl
theorem ins_cons (w x : Wt) (l : List Wt) : ins w (x :: l) = if fore w x then w :: x :: l else x :: ins w l := by
  unfold ins
  rw [List.findIdx_cons]
  cases h : fore w x
  · simp
  · simp
theorem mem_ins {w x : Wt} {l : List Wt} : x ∈ ins w l ↔ x = w ∨ x ∈ l := by
  induction l with
  | nil => simp [ins_nil]
  | cons y l ih =>
    rw [ins_cons]
    split
    · simp
    · simp only [List.mem_cons, ih]
      constructor <;> (rintro (h | h | h) <;> simp [h])
theorem ins_length (w : Wt) (l : List Wt) : (ins w l).length = l.length + 1 := by
  have := List.findIdx_le_length (p := fore w) (xs := l)
  simp [ins]; omega
theorem ins_srt {w : Wt} {l : List Wt} (h : Srt l) (hw : ∀ x ∈ l, x.r ≠ w.r) : Srt (ins w l) := by
  induction l with
  | nil => exact List.pairwise_singleton _ _
  | cons y l ih =>
    have h' := List.pairwise_cons.1 h
    rw [ins_cons]
    split
    · rename_i hy
      refine List.pairwise_cons.2 ⟨fun x hx => ?_, h⟩
      rcases List.mem_cons.1 hx with rfl | hx
      · exact hy
      · exact fore_trans hy (h'.1 x hx)
    · rename_i hy
      refine List.pairwise_cons.2 ⟨fun x hx => ?_, ih h'.2 (fun x hx => hw x (List.mem_cons_of_mem _ hx))⟩
      rcases mem_ins.1 hx with rfl | hx
      · rcases fore_total (hw y (List.mem_cons_self)) with h1 | h1
        · exact h1
        · exact absurd h1 hy
      · exact h'.1 x hx
theorem srt_eq {l m : List Wt} (hl : Srt l) (hm : Srt m) (h : ∀ x, x ∈ l ↔ x ∈ m) : l = m := by
  induction l generalizing m with
  | nil =>
    cases m with
    | nil => rfl
    | cons y m => exact absurd ((h y).2 List.mem_cons_self) (by simp)
  | cons x l ih =>
    cases m with
    | nil => exact absurd ((h x).1 List.mem_cons_self) (by simp)
    | cons y m =>
      have hl' := List.pairwise_cons.1 hl
      have hm' := List.pairwise_cons.1 hm
      have hxy : x = y := by
        rcases List.mem_cons.1 ((h x).1 List.mem_cons_self) with h1 | h1
        · exact h1
        · rcases List.mem_cons.1 ((h y).2 List.mem_cons_self) with h2 | h2
          · exact h2.symm
          · have := fore_asymm (hm'.1 x h1); rw [hl'.1 y h2] at this; cases this
      subst hxy
      congr 1
      refine ih hl'.2 hm'.2 fun z => ⟨fun hz => ?_, fun hz => ?_⟩
      · rcases List.mem_cons.1 ((h z).1 (List.mem_cons_of_mem _ hz)) with rfl | h1
        · have := hl'.1 z hz; rw [fore_irrefl] at this; cases this
        · exact h1
      · rcases List.mem_cons.1 ((h z).2 (List.mem_cons_of_mem _ hz)) with rfl | h1
        · have := hm'.1 z hz; rw [fore_irrefl] at this; cases this
        · exact h1

/-- Where a robot's is. -/
def idx (l : List Wt) (r : Int) : Nat := l.findIdx (fun x => x.r == r)
theorem idx_le (l : List Wt) (r : Int) : idx l r ≤ l.length := List.findIdx_le_length
def has (l : List Wt) (r : Int) : Bool := decide (idx l r < l.length)
def at_ (l : List Wt) (r : Int) : Wt := l.getD (idx l r) w0
theorem idx_spec {l : List Wt} {r : Int} (h : idx l r < l.length) : at_ l r ∈ l ∧ (at_ l r).r = r ∧ l[idx l r]? = some (at_ l r) := by
  have h1 : l[idx l r] = at_ l r := by simp [at_, List.getD, h]
  have h2 : ((l[idx l r]).r == r) = true := List.findIdx_getElem (p := fun x : Wt => x.r == r) (w := h)
  rw [h1] at h2
  exact ⟨h1 ▸ List.getElem_mem h, by simpa using h2, by rw [List.getElem?_eq_getElem h, h1]⟩
theorem idx_none {l : List Wt} {r : Int} (h : ¬ idx l r < l.length) : ∀ x ∈ l, x.r ≠ r := by
  intro x hx
  have := (List.findIdx_eq_length (p := fun x : Wt => x.r == r) (xs := l)).1 (by have := idx_le l r; unfold idx at *; omega) x hx
  simpa using this
theorem idx_some {l : List Wt} {x : Wt} (h : x ∈ l) : idx l x.r < l.length := by
  unfold idx
  exact List.findIdx_lt_length_of_exists ⟨x, h, by simp⟩
/-- A call's answer, and what is left. -/
def putB (w : Wt) (l : List Wt) : Bool := has l w.r || decide (l.length ≠ 8)
def putL (w : Wt) (l : List Wt) : List Wt :=
  if has l w.r then (if w.p ≤ (at_ l w.r).p then l else ins w (l.eraseIdx (idx l w.r)))
  else if l.length = 8 then l else ins w l
def upB (l : List Wt) (r p : Int) : Bool := has l r && decide ((at_ l r).p < p) && decide (p ≤ 15)
def upL (l : List Wt) (r p : Int) : List Wt := if upB l r p then ins { at_ l r with p := p } (l.eraseIdx (idx l r)) else l
def cutL (l : List Wt) (r : Int) : List Wt := if has l r then l.eraseIdx (idx l r) else l

/-- What a queue keeps. -/
structure Ok (l : List Wt) : Prop where
  srt : Srt l
  one : l.Pairwise (fun a b => a.r ≠ b.r)
  len : l.length ≤ 8
theorem Ok.nil : Ok [] := ⟨List.Pairwise.nil, List.Pairwise.nil, by simp⟩
theorem Ok.erase {l : List Wt} (h : Ok l) (i : Nat) : Ok (l.eraseIdx i) :=
  ⟨h.srt.sublist (List.eraseIdx_sublist _ _), h.one.sublist (List.eraseIdx_sublist _ _), by have := List.length_eraseIdx_le l i; have := h.len; omega⟩
theorem one_mem {l : List Wt} (h : l.Pairwise (fun a b => a.r ≠ b.r)) {x y : Wt} (hx : x ∈ l) (hy : y ∈ l) (e : x.r = y.r) : x = y := by
  induction l with
  | nil => cases hx
  | cons z l ih =>
    have h' := List.pairwise_cons.1 h
    rcases List.mem_cons.1 hx with h1 | h1
    · rcases List.mem_cons.1 hy with h2 | h2
      · rw [h1, h2]
      · exact absurd e (h1 ▸ h'.1 y h2)
    · rcases List.mem_cons.1 hy with h2 | h2
      · exact absurd e.symm (h2 ▸ h'.1 x h1)
      · exact ih h'.2 h1 h2
theorem mem_erase {l : List Wt} (h : l.Pairwise (fun a b => a.r ≠ b.r)) {r : Int} (hi : idx l r < l.length) (x : Wt) : x ∈ l.eraseIdx (idx l r) ↔ x ∈ l ∧ x.r ≠ r := by
  obtain ⟨h1, h2, h3⟩ := idx_spec hi
  have he : l = l.take (idx l r) ++ at_ l r :: l.drop (idx l r + 1) := by
    have h4 : l[idx l r] = at_ l r := by rw [List.getElem?_eq_getElem hi] at h3; exact Option.some.inj h3
    rw [← h4, List.getElem_cons_drop hi, List.take_append_drop]
  rw [List.eraseIdx_eq_take_drop_succ]
  generalize idx l r = i at *
  generalize l.take i = A at *
  generalize l.drop (i + 1) = B at *
  generalize at_ l r = y at *
  subst he
  have hp := List.pairwise_append.1 h
  have hq := List.pairwise_cons.1 hp.2.1
  simp only [List.mem_append, List.mem_cons]
  constructor
  · rintro (h | h)
    · exact ⟨.inl h, by rw [← h2]; exact hp.2.2 x h y List.mem_cons_self⟩
    · exact ⟨.inr (.inr h), by rw [← h2]; exact (hq.1 x h).symm⟩
  · rintro ⟨h | rfl | h, hne⟩
    · exact .inl h
    · exact absurd h2 hne
    · exact .inr h
theorem Ok.ins {l : List Wt} (h : Ok l) {w : Wt} (hw : ∀ x ∈ l, x.r ≠ w.r) (hl : l.length ≤ 7) : Ok (ins w l) := by
  refine ⟨ins_srt h.srt hw, ?_, by rw [ins_length]; omega⟩
  have h := h.one
  clear hl
  rename Ok l => hk
  clear hk
  induction l with
  | nil => exact List.pairwise_singleton _ _
  | cons y l ih =>
    have h' := List.pairwise_cons.1 h
    rw [ins_cons]
    split
    · exact List.pairwise_cons.2 ⟨fun x hx => (hw x hx).symm, h⟩
    · refine List.pairwise_cons.2 ⟨fun x hx => ?_, ih (fun x hx => hw x (List.mem_cons_of_mem _ hx)) h'.2⟩
      rcases mem_ins.1 hx with rfl | hx
      · exact hw y List.mem_cons_self
      · exact h'.1 x hx
theorem erase_len {l : List Wt} {r : Int} (hi : idx l r < l.length) : (l.eraseIdx (idx l r)).length = l.length - 1 := by rw [List.length_eraseIdx, if_pos hi]
theorem Ok.put {l : List Wt} (h : Ok l) (w : Wt) : Ok (putL w l) := by
  unfold putL has
  have := h.len
  by_cases h1 : idx l w.r < l.length
  · rw [if_pos (by simpa using h1)]
    split
    · exact h
    · refine (h.erase _).ins (fun x hx => ((mem_erase h.one h1 x).1 hx).2) (by rw [erase_len h1]; omega)
  · rw [if_neg (by simpa using h1)]
    split
    · exact h
    · exact h.ins (idx_none h1) (by omega)
theorem Ok.up {l : List Wt} (h : Ok l) (r p : Int) : Ok (upL l r p) := by
  unfold upL
  split
  · rename_i h1
    have h2 : idx l r < l.length := by unfold upB has at h1; simp at h1; exact h1.1.1
    have := h.len
    refine (h.erase _).ins (fun x hx => ?_) (by rw [erase_len h2]; omega)
    have := (mem_erase h.one h2 x).1 hx
    have e := (idx_spec h2).2.1
    show x.r ≠ (at_ l r).r
    rw [e]; exact this.2
  · exact h
theorem Ok.cut {l : List Wt} (h : Ok l) (r : Int) : Ok (cutL l r) := by
  unfold cutL
  split
  · exact h.erase _
  · exact h
theorem mem_cut {l : List Wt} (h : Ok l) {r : Int} {x : Wt} : x ∈ cutL l r ↔ x ∈ l ∧ x.r ≠ r := by
  unfold cutL has
  by_cases h1 : idx l r < l.length
  · rw [if_pos (by simpa using h1)]; exact mem_erase h.one h1 x
  · rw [if_neg (by simpa using h1)]; exact ⟨fun hx => ⟨hx, idx_none h1 x hx⟩, fun hx => hx.1⟩
theorem has_iff {l : List Wt} {r : Int} : has l r = true ↔ ∃ x ∈ l, x.r = r := by
  unfold has
  constructor
  · intro h
    have := idx_spec (by simpa using h : idx l r < l.length)
    exact ⟨_, this.1, this.2.1⟩
  · rintro ⟨x, hx, rfl⟩
    simpa using idx_some hx

/-- The eight places of a queue. -/
def pad (l : List Wt) : List Wt := l ++ List.replicate (8 - l.length) w0
theorem pad_length {l : List Wt} (h : l.length ≤ 8) : (pad l).length = 8 := by simp [pad]; omega
theorem pad_get {l : List Wt} {j : Nat} (h : j < l.length) : (pad l).getD j w0 = l.getD j w0 := by
  simp [pad, List.getD, List.getElem?_append_left h]
end Sp
open Sp

def wc (x : Wt) : List Value := [.int .i64 x.r, .int .u64 x.s, .int .i64 x.p]
def wv (x : Wt) : Value := .agg #[.int .i64 x.r, .int .u64 x.s, .int .i64 x.p]
def csA (A : List Wt) : List Value := A.flatMap wc
theorem csA_length (A : List Wt) : (csA A).length = A.length * 3 := by
  induction A with
  | nil => rfl
  | cons x A ih => simp only [csA, List.flatMap_cons, List.length_append] at *; rw [ih]; simp [wc]; omega
theorem csA_append (A B : List Wt) : csA (A ++ B) = csA A ++ csA B := by simp [csA]
theorem csA_take (A : List Wt) (k : Nat) : csA (A.take k) = (csA A).take (k * 3) := by
  induction A generalizing k with
  | nil => simp [csA]
  | cons x A ih =>
    cases k with
    | zero => simp [csA]
    | succ k =>
      have := ih k
      simp only [csA, List.take_succ_cons, List.flatMap_cons] at *
      rw [this, show (k + 1) * 3 = 3 + k * 3 by omega]
      simp [wc, Nat.add_comm 3, List.take_append]
theorem csA_drop (A : List Wt) (k : Nat) : csA (A.drop k) = (csA A).drop (k * 3) := by
  have h1 : csA A = csA (A.take k) ++ csA (A.drop k) := by rw [← csA_append, List.take_append_drop]
  rcases Nat.lt_or_ge k A.length with h | h
  · rw [h1, List.drop_left' (by rw [csA_length, List.length_take]; omega)]
  · rw [List.drop_eq_nil_of_le h, List.drop_eq_nil_of_le (by rw [csA_length]; omega)]; rfl
theorem csA_one (A : List Wt) : ∀ v ∈ csA A, v.oneCell' = true := by
  intro v hv
  simp only [csA, List.mem_flatMap] at hv
  obtain ⟨x, _, hv⟩ := hv
  simp [wc] at hv
  rcases hv with rfl | rfl | rfl <;> rfl
theorem csA_get {A : List Wt} {j : Nat} (h : j < A.length) (k : Nat) (hk : k < 3) : (csA A)[j * 3 + k]? = (wc (A.getD j w0))[k]? := by
  have h1 : csA A = csA (A.take j) ++ (wc (A.getD j w0) ++ csA (A.drop (j + 1))) := by
    have : A = A.take j ++ A.getD j w0 :: A.drop (j + 1) := by
      rw [show A.getD j w0 = A[j] by simp [List.getD, h], List.getElem_cons_drop, List.take_append_drop]
    conv => lhs; rw [this]
    rw [csA_append]; rfl
  have h2 : (csA (A.take j)).length = j * 3 := by rw [csA_length, List.length_take]; omega
  rw [h1, List.getElem?_append_right (by omega), h2, Nat.add_sub_cancel_left, List.getElem?_append_left (by simp [wc]; omega)]

/-- The places of a queue in memory, and how many count. -/
def QB (w : World) (b : Nat) (A : List Wt) (n : Nat) : Prop := A.length = 8 ∧ w.heap[b]? = some (.cells (csA A ++ [Value.int .i64 (n : Int)]).toArray 134 (0, 0))
/-- A queue in memory. -/
def QAt (w : World) (b : Nat) (l : List Wt) : Prop := l.length ≤ 8 ∧ QB w b (pad l) l.length
theorem QB.count {w : World} {b : Nat} {A : List Wt} {n : Nat} (h : QB w b A n) : w.cell? ⟨b, 24, none⟩ = some (.int .i64 (n : Int)) := by
  rw [blk_cell h.2]
  have h1 : (csA A).length = 24 := by rw [csA_length, h.1]
  simp only [List.getElem?_toArray]
  rw [List.getElem?_append_right (by omega), h1]; rfl
theorem QB.free {w : World} {b : Nat} {A : List Wt} {n : Nat} (h : QB w b A n) (j : Nat) : w.frozen? ⟨b, j, none⟩ = false := blk_free h.2 j
theorem QB.wt {w : World} {b : Nat} {A : List Wt} {n : Nat} (h : QB w b A n) {j : Nat} (hj : j < 8) :
    w.cell? ⟨b, j * 3, none⟩ = some (.int .i64 (A.getD j w0).r) ∧ w.cell? ⟨b, j * 3 + 1, none⟩ = some (.int .u64 (A.getD j w0).s) ∧ w.cell? ⟨b, j * 3 + 2, none⟩ = some (.int .i64 (A.getD j w0).p) := by
  have h1 : (csA A).length = 24 := by rw [csA_length, h.1]
  have hA : j < A.length := by rw [h.1]; exact hj
  have hg : ∀ k, k < 3 → w.cell? ⟨b, j * 3 + k, none⟩ = (wc (A.getD j w0))[k]? := by
    intro k hk
    rw [blk_cell h.2]
    simp only [List.getElem?_toArray]
    rw [List.getElem?_append_left (by omega), csA_get hA k hk]
  exact ⟨hg 0 (by omega), hg 1 (by omega), hg 2 (by omega)⟩
theorem QB.kept {w w' : World} {b : Nat} {A : List Wt} {n : Nat} {X : Nat → Prop} (h : QB w b A n) (hk : Kept X w w') (hb : ¬ X b) : QB w' b A n :=
  ⟨h.1, (hk.block b (blk_lt h.2) hb).trans h.2⟩
theorem QAt.kept {w w' : World} {b : Nat} {l : List Wt} {X : Nat → Prop} (h : QAt w b l) (hk : Kept X w w') (hb : ¬ X b) : QAt w' b l := ⟨h.1, h.2.kept hk hb⟩
theorem QAt.lt {w : World} {b : Nat} {l : List Wt} (h : QAt w b l) : b < w.heap.size := blk_lt h.2.2
end Go.Proofs.YtlmbbnkdiokabaaDoor
