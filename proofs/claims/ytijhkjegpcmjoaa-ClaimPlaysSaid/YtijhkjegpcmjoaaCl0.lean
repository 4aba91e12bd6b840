/-
  Claims, plain, and in memory.
-/
import Derived.Test.YtijhkjegpcmjoaaHeap
import Derived.Test.YtijhkjegpcmjoaaKp
import Derived.IntWalk
import Derived.RangeFuncRecord
namespace Go.Proofs.Ytijhkjegpcmjoaa
set_option maxRecDepth 100000
set_option linter.unusedSimpArgs false
open Go Go.RowKit

namespace Cl
/-- A claim: a cell, and its generation. -/
structure Cm where
  c : Int
  g : Int
deriving DecidableEq
def c0 : Cm := ⟨0, 0⟩
def isC (c : Int) : Bool := decide (0 ≤ c) && decide (c < 1024)
/-- Where a cell's claim stands, or would stand. -/
def idx (l : List Cm) (c : Int) : Nat := l.findIdx (fun x => decide (c ≤ x.c))
def at_ (l : List Cm) (c : Int) : Cm := l.getD (idx l c) c0
def has (l : List Cm) (c : Int) : Bool := decide (idx l c < l.length) && decide ((at_ l c).c = c)
/-- What is answered, and what is left. -/
def takeE (l : List Cm) (c : Int) : Int := if isC c = false then 2 else if has l c then 150 else if l.length = 16 then 151 else 0
def ins (l : List Cm) (x : Cm) : List Cm := l.take (idx l x.c) ++ x :: l.drop (idx l x.c)
def takeL (l : List Cm) (x : Cm) : List Cm := if takeE l x.c = 0 then ins l x else l
def genG (l : List Cm) (c : Int) : Int := if has l c then (at_ l c).g else 0
def dropL (l : List Cm) (c : Int) : List Cm := if has l c then l.eraseIdx (idx l c) else l
def Ris (l : List Cm) : Prop := l.Pairwise (fun a b => a.c < b.c)
structure Ok (l : List Cm) : Prop where
  ris : Ris l
  len : l.length ≤ 16
  cel : ∀ x ∈ l, 0 ≤ x.c ∧ x.c < 1024
  gen : ∀ x ∈ l, 0 ≤ x.g ∧ x.g < 4294967296
theorem Ok.nil : Ok [] := ⟨List.Pairwise.nil, by simp, by simp, by simp⟩
theorem idx_le (l : List Cm) (c : Int) : idx l c ≤ l.length := List.findIdx_le_length
theorem getD_eq {l : List Cm} {j : Nat} (h : j < l.length) : l.getD j c0 = l[j] := by simp [List.getD, h]
theorem getD_mem {l : List Cm} {j : Nat} (h : j < l.length) : l.getD j c0 ∈ l := by rw [getD_eq h]; exact List.getElem_mem h
theorem ris_lt {l : List Cm} (h : Ris l) {i j : Nat} (hij : i < j) (hj : j < l.length) : (l.getD i c0).c < (l.getD j c0).c := by
  rw [getD_eq (by omega), getD_eq hj]
  exact List.pairwise_iff_getElem.1 h i j (by omega) hj hij
theorem idx_below {l : List Cm} {c : Int} {j : Nat} (h : j < idx l c) : (l.getD j c0).c < c := by
  have hj : j < l.length := Nat.lt_of_lt_of_le h (idx_le l c)
  have := List.not_of_lt_findIdx h
  rw [getD_eq hj]
  simpa using this
theorem idx_at {l : List Cm} {c : Int} (h : idx l c < l.length) : c ≤ (at_ l c).c := by
  have h2 : decide (c ≤ (l[idx l c]).c) = true := List.findIdx_getElem (p := fun x : Cm => decide (c ≤ x.c)) (w := h)
  unfold at_
  rw [getD_eq h]
  simpa using h2
theorem idx_above {l : List Cm} (hr : Ris l) {c : Int} {j : Nat} (h : idx l c ≤ j) (hj : j < l.length) : c ≤ (l.getD j c0).c := by
  have h1 := idx_at (l := l) (c := c) (by omega)
  rcases Nat.lt_or_ge (idx l c) j with h2 | h2
  · have := ris_lt hr h2 hj
    unfold at_ at h1
    omega
  · obtain rfl : j = idx l c := by omega
    exact h1
/-- Where it stands, by what stands ahead of it and behind it. -/
theorem idx_eq {l : List Cm} {c : Int} {i : Nat} (hi : i ≤ l.length) (h1 : ∀ j, j < i → (l.getD j c0).c < c) (h2 : ∀ j, i ≤ j → j < l.length → c ≤ (l.getD j c0).c) : idx l c = i := by
  rcases Nat.lt_trichotomy (idx l c) i with h | h | h
  · have a := h1 _ h
    have b := idx_at (l := l) (c := c) (by omega)
    unfold at_ at b
    omega
  · exact h
  · have hl := idx_le l c
    have a := idx_below h
    have b := h2 i (Nat.le_refl _) (by omega)
    omega
theorem has_iff {l : List Cm} (hr : Ris l) {c : Int} : has l c = true ↔ ∃ x ∈ l, x.c = c := by
  unfold has
  rw [Bool.and_eq_true, decide_eq_true_eq, decide_eq_true_eq]
  constructor
  · rintro ⟨h1, h2⟩
    exact ⟨at_ l c, getD_mem h1, h2⟩
  · rintro ⟨x, hx, rfl⟩
    obtain ⟨j, hj, rfl⟩ := List.getElem_of_mem hx
    have e : idx l (l[j]).c = j := idx_eq (by omega) (fun k hk => by have := ris_lt hr hk hj; rwa [getD_eq hj] at this) (fun k hk hkl => by
      rcases Nat.lt_or_ge j k with h | h
      · have := ris_lt hr h hkl
        rw [getD_eq hj] at this; omega
      · obtain rfl : k = j := by omega
        rw [getD_eq hj]; exact Int.le_refl _)
    refine ⟨by omega, ?_⟩
    unfold at_
    rw [e, getD_eq hj]
theorem has_lt {l : List Cm} {c : Int} (h : has l c = true) : idx l c < l.length ∧ (at_ l c).c = c := by
  unfold has at h
  simpa using h
theorem at_mem {l : List Cm} {c : Int} (h : has l c = true) : at_ l c ∈ l := getD_mem (has_lt h).1
theorem not_has {l : List Cm} (hr : Ris l) {c : Int} (h : has l c = false) : ∀ x ∈ l, x.c ≠ c := fun x hx e => by
  have := (has_iff hr).2 ⟨x, hx, e⟩
  rw [h] at this; cases this
theorem mem_ins {l : List Cm} {x y : Cm} : y ∈ ins l x ↔ y = x ∨ y ∈ l := by
  unfold ins
  rw [List.mem_append, List.mem_cons]
  conv => rhs; rw [← List.take_append_drop (idx l x.c) l]
  rw [List.mem_append]
  constructor
  · rintro (h | h | h)
    · exact .inr (.inl h)
    · exact .inl h
    · exact .inr (.inr h)
  · rintro (h | h | h)
    · exact .inr (.inl h)
    · exact .inl h
    · exact .inr (.inr h)
theorem ins_length (l : List Cm) (x : Cm) : (ins l x).length = l.length + 1 := by
  unfold ins
  have := idx_le l x.c
  simp
  omega
theorem mem_take_lt {l : List Cm} {c : Int} {y : Cm} (h : y ∈ l.take (idx l c)) : y.c < c := by
  obtain ⟨j, hj, rfl⟩ := List.getElem_of_mem h
  rw [List.length_take] at hj
  have hj2 : j < idx l c := by omega
  have := idx_below hj2
  rw [getD_eq (by omega)] at this
  simpa using this
theorem mem_drop_ge {l : List Cm} (hr : Ris l) {c : Int} {y : Cm} (h : y ∈ l.drop (idx l c)) : c ≤ y.c := by
  obtain ⟨j, hj, rfl⟩ := List.getElem_of_mem h
  rw [List.length_drop] at hj
  have := idx_above hr (c := c) (j := idx l c + j) (by omega) (by omega)
  rw [getD_eq (by omega)] at this
  simpa using this
theorem Ris.ins {l : List Cm} (hr : Ris l) {x : Cm} (h : ∀ y ∈ l, y.c ≠ x.c) : Ris (ins l x) := by
  refine List.pairwise_append.2 ⟨hr.sublist (List.take_sublist _ _), List.pairwise_cons.2 ⟨fun y hy => ?_, hr.sublist (List.drop_sublist _ _)⟩, fun a ha b hb => ?_⟩
  · have h1 := mem_drop_ge hr hy
    have h2 := h y (List.mem_of_mem_drop hy)
    omega
  · have h1 := mem_take_lt ha
    rcases List.mem_cons.1 hb with rfl | hb
    · exact h1
    · have := mem_drop_ge hr hb
      omega
theorem takeE_zero {l : List Cm} {c : Int} : takeE l c = 0 ↔ isC c = true ∧ has l c = false ∧ l.length ≠ 16 := by
  unfold takeE
  cases h : isC c with
  | false => simp
  | true =>
    rw [if_neg (by decide)]
    cases h2 : has l c with
    | true => simp
    | false =>
      rw [if_neg (by decide)]
      by_cases h3 : l.length = 16
      · simp [h3]
      · simp [h3]
theorem Ok.take {l : List Cm} (h : Ok l) {x : Cm} (hg : 0 ≤ x.g ∧ x.g < 4294967296) : Ok (takeL l x) := by
  unfold takeL
  by_cases e : takeE l x.c = 0
  · rw [if_pos e]
    obtain ⟨h1, h2, h3⟩ := takeE_zero.1 e
    have hl := h.len
    unfold isC at h1
    simp only [Bool.and_eq_true, decide_eq_true_eq] at h1
    refine ⟨h.ris.ins (not_has h.ris h2), by rw [ins_length]; omega, fun y hy => ?_, fun y hy => ?_⟩
    · rcases mem_ins.1 hy with rfl | hy
      · exact h1
      · exact h.cel y hy
    · rcases mem_ins.1 hy with rfl | hy
      · exact hg
      · exact h.gen y hy
  · rw [if_neg e]; exact h
theorem Ok.drop {l : List Cm} (h : Ok l) (c : Int) : Ok (dropL l c) := by
  unfold dropL
  split
  · exact ⟨h.ris.sublist (List.eraseIdx_sublist _ _), by have := List.length_eraseIdx_le l (idx l c); have := h.len; omega, fun y hy => h.cel y (List.mem_of_mem_eraseIdx hy), fun y hy => h.gen y (List.mem_of_mem_eraseIdx hy)⟩
  · exact h
theorem genG_in {l : List Cm} (h : Ok l) (c : Int) : 0 ≤ genG l c ∧ genG l c < 4294967296 := by
  unfold genG
  split
  · rename_i hh
    exact h.gen _ (at_mem hh)
  · omega
/-- A claim that comes and goes. -/
theorem drop_ins {l : List Cm} (hr : Ris l) {x : Cm} (h : ∀ y ∈ l, y.c ≠ x.c) : has (ins l x) x.c = true ∧ at_ (ins l x) x.c = x ∧ dropL (ins l x) x.c = l := by
  have hi := idx_le l x.c
  have e : idx (ins l x) x.c = idx l x.c := by
    refine idx_eq (by rw [ins_length]; omega) (fun j hj => ?_) (fun j h1 h2 => ?_)
    · have : (ins l x).getD j c0 = l.getD j c0 := by
        unfold ins
        simp only [List.getD_eq_getElem?_getD]
        rw [List.getElem?_append_left (by rw [List.length_take]; omega), List.getElem?_take_of_lt hj]
      rw [this]
      exact idx_below hj
    · have hm := getD_mem h2
      rcases Nat.lt_or_ge (idx l x.c) j with h3 | h3
      · have h4 : (ins l x).getD (idx l x.c) c0 = x := by
          unfold ins
          simp only [List.getD_eq_getElem?_getD]
          rw [List.getElem?_append_right (by rw [List.length_take]; omega), List.length_take, Nat.min_eq_left hi, Nat.sub_self]
          rfl
        have := ris_lt (hr.ins h) h3 h2
        rw [h4] at this
        omega
      · obtain rfl : j = idx l x.c := by omega
        have h4 : (ins l x).getD (idx l x.c) c0 = x := by
          unfold ins
          simp only [List.getD_eq_getElem?_getD]
          rw [List.getElem?_append_right (by rw [List.length_take]; omega), List.length_take, Nat.min_eq_left hi, Nat.sub_self]
          rfl
        rw [h4]
        exact Int.le_refl _
  have h4 : (ins l x).getD (idx l x.c) c0 = x := by
    unfold ins
    simp only [List.getD_eq_getElem?_getD]
    rw [List.getElem?_append_right (by rw [List.length_take]; omega), List.length_take, Nat.min_eq_left hi, Nat.sub_self]
    rfl
  have ha : at_ (ins l x) x.c = x := by unfold at_; rw [e, h4]
  have hh : has (ins l x) x.c = true := by
    unfold has
    rw [ha, e, ins_length]
    simp
    omega
  refine ⟨hh, ha, ?_⟩
  unfold dropL
  rw [if_pos hh, e]
  unfold ins
  rw [List.eraseIdx_append_of_length_le (by rw [List.length_take]; omega), List.length_take, Nat.min_eq_left hi, Nat.sub_self]
  show _ ++ l.drop _ = _
  exact List.take_append_drop _ _
/-- The sixteen places of claims. -/
def pad (l : List Cm) : List Cm := l ++ List.replicate (16 - l.length) c0
theorem pad_length {l : List Cm} (h : l.length ≤ 16) : (pad l).length = 16 := by simp [pad]; omega
theorem pad_get {l : List Cm} {j : Nat} (h : j < l.length) : (pad l).getD j c0 = l.getD j c0 := by
  simp [pad, List.getD, List.getElem?_append_left h]
end Cl
open Cl

def mc (x : Cm) : List Value := [.int .i64 x.c, .int .u32 x.g]
def mv (x : Cm) : Value := .agg #[.int .i64 x.c, .int .u32 x.g]
def csM (A : List Cm) : List Value := A.flatMap mc
theorem csM_length (A : List Cm) : (csM A).length = A.length * 2 := by
  induction A with
  | nil => rfl
  | cons x A ih => simp only [csM, List.flatMap_cons, List.length_append] at *; rw [ih]; simp [mc]; omega
theorem csM_append (A B : List Cm) : csM (A ++ B) = csM A ++ csM B := by simp [csM]
theorem csM_take (A : List Cm) (k : Nat) : csM (A.take k) = (csM A).take (k * 2) := by
  induction A generalizing k with
  | nil => simp [csM]
  | cons x A ih =>
    cases k with
    | zero => simp [csM]
    | succ k =>
      have := ih k
      simp only [csM, List.take_succ_cons, List.flatMap_cons] at *
      rw [this, show (k + 1) * 2 = 2 + k * 2 by omega]
      simp [mc, Nat.add_comm 2, List.take_append]
theorem csM_drop (A : List Cm) (k : Nat) : csM (A.drop k) = (csM A).drop (k * 2) := by
  have h1 : csM A = csM (A.take k) ++ csM (A.drop k) := by rw [← csM_append, List.take_append_drop]
  rcases Nat.lt_or_ge k A.length with h | h
  · rw [h1, List.drop_left' (by rw [csM_length, List.length_take]; omega)]
  · rw [List.drop_eq_nil_of_le h, List.drop_eq_nil_of_le (by rw [csM_length]; omega)]; rfl
theorem csM_one (A : List Cm) : ∀ v ∈ csM A, v.oneCell' = true := by
  intro v hv
  simp only [csM, List.mem_flatMap] at hv
  obtain ⟨x, _, hv⟩ := hv
  simp [mc] at hv
  rcases hv with rfl | rfl <;> rfl
theorem csM_get {A : List Cm} {j : Nat} (h : j < A.length) (k : Nat) (hk : k < 2) : (csM A)[j * 2 + k]? = (mc (A.getD j c0))[k]? := by
  have h1 : csM A = csM (A.take j) ++ (mc (A.getD j c0) ++ csM (A.drop (j + 1))) := by
    have : A = A.take j ++ A.getD j c0 :: A.drop (j + 1) := by
      rw [show A.getD j c0 = A[j] by simp [List.getD, h], List.getElem_cons_drop, List.take_append_drop]
    conv => lhs; rw [this]
    rw [csM_append]; rfl
  have h2 : (csM (A.take j)).length = j * 2 := by rw [csM_length, List.length_take]; omega
  rw [h1, List.getElem?_append_right (by omega), h2, Nat.add_sub_cancel_left, List.getElem?_append_left (by simp [mc]; omega)]

/-- The places of claims in memory, and how many count. -/
def CB (w : World) (b : Nat) (A : List Cm) (n : Nat) : Prop := A.length = 16 ∧ w.heap[b]? = some (.cells (csM A ++ [Value.int .i64 (n : Int)]).toArray 29 (0, 0))
/-- Claims in memory. -/
def CAt (w : World) (b : Nat) (l : List Cm) : Prop := Ok l ∧ CB w b (pad l) l.length
theorem CB.count {w : World} {b : Nat} {A : List Cm} {n : Nat} (h : CB w b A n) : w.cell? ⟨b, 32, none⟩ = some (.int .i64 (n : Int)) := by
  rw [blk_cell h.2]
  have h1 : (csM A).length = 32 := by rw [csM_length, h.1]
  simp only [List.getElem?_toArray]
  rw [List.getElem?_append_right (by omega), h1]; rfl
theorem CB.free {w : World} {b : Nat} {A : List Cm} {n : Nat} (h : CB w b A n) (j : Nat) : w.frozen? ⟨b, j, none⟩ = false := blk_free h.2 j
theorem CB.cm {w : World} {b : Nat} {A : List Cm} {n : Nat} (h : CB w b A n) {j : Nat} (hj : j < 16) :
    w.cell? ⟨b, j * 2, none⟩ = some (.int .i64 (A.getD j c0).c) ∧ w.cell? ⟨b, j * 2 + 1, none⟩ = some (.int .u32 (A.getD j c0).g) := by
  have h1 : (csM A).length = 32 := by rw [csM_length, h.1]
  have hA : j < A.length := by rw [h.1]; exact hj
  have hg : ∀ k, k < 2 → w.cell? ⟨b, j * 2 + k, none⟩ = (mc (A.getD j c0))[k]? := by
    intro k hk
    rw [blk_cell h.2]
    simp only [List.getElem?_toArray]
    rw [List.getElem?_append_left (by omega), csM_get hA k hk]
  exact ⟨hg 0 (by omega), hg 1 (by omega)⟩
theorem CB.kept {w w' : World} {b : Nat} {A : List Cm} {n : Nat} {X : Nat → Prop} (h : CB w b A n) (hk : Kept X w w') (hb : ¬ X b) : CB w' b A n :=
  ⟨h.1, (hk.block b (blk_lt h.2) hb).trans h.2⟩
theorem CAt.kept {w w' : World} {b : Nat} {l : List Cm} {X : Nat → Prop} (h : CAt w b l) (hk : Kept X w w') (hb : ¬ X b) : CAt w' b l := ⟨h.1, h.2.kept hk hb⟩
theorem CAt.lt {w : World} {b : Nat} {l : List Cm} (h : CAt w b l) : b < w.heap.size := blk_lt h.2.2
theorem CAt.below {w w' : World} {b : Nat} {l : List Cm} (h : CAt w b l) (hb : Below w.heap.size w w') : CAt w' b l := ⟨h.1, h.2.1, (hb.block b h.lt).trans h.2.2⟩
theorem CAt.cm {w : World} {b : Nat} {l : List Cm} (h : CAt w b l) {j : Nat} (hj : j < l.length) :
    w.cell? ⟨b, j * 2, none⟩ = some (.int .i64 (l.getD j c0).c) ∧ w.cell? ⟨b, j * 2 + 1, none⟩ = some (.int .u32 (l.getD j c0).g) := by
  have := h.2.cm (j := j) (by have := h.1.len; omega)
  rwa [pad_get hj] at this
/-- Claims, or none. -/
def CP (w : World) (p : Option Addr) (l : List Cm) : Prop := (p = none ∧ l = []) ∨ ∃ b, p = some ⟨b, 0, none⟩ ∧ CAt w b l
/-- What is new. -/
theorem CAt.fresh {w : World} (o : Obj) (ho : o = .cells (csM (pad []) ++ [Value.int .i64 0]).toArray 29 (0, 0)) : CAt (w.alloc o) w.heap.size [] :=
  ⟨Ok.nil, rfl, by rw [ho]; exact World.alloc_heap_new w _⟩
end Go.Proofs.Ytijhkjegpcmjoaa
