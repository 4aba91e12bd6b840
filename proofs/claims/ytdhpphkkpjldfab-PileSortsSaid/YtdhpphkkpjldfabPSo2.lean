/-
  The law PileSorts: two piles and a tally, from call to call.
-/
import Derived.Test.YtdhpphkkpjldfabPSo
namespace Go.Proofs.Ytdhpphkkpjldfab
set_option maxRecDepth 100000
open Go Go.RowKit Pq
open Go.Maps (Keyed IsMap)
open Go.WideElems (Fit rg)

/-- How often an item with this key is on the list. -/
noncomputable def cnt (L : List It) (k : Lit) : Int := open Classical in ((L.countP (fun x => decide (keyL x = k)) : Nat) : Int)
theorem cnt_nil : cnt [] = fun _ => 0 := rfl
theorem cnt_bounds (L : List It) (k : Lit) : 0 ≤ cnt L k ∧ cnt L k ≤ L.length := by
  unfold cnt
  have := @List.countP_le_length _ (fun x => @decide (keyL x = k) (Classical.propDecidable _)) L
  omega
theorem cnt_perm {L M : List It} (h : L.Perm M) : cnt L = cnt M := by
  funext k
  unfold cnt
  rw [h.countP_eq]
theorem cnt_cons (x : It) (L : List It) : cset (cnt L) (keyL x) (cnt L (keyL x) + 1) = cnt (x :: L) := by
  funext k
  by_cases e : k = keyL x
  · subst e
    rw [cset_same]
    unfold cnt
    rw [List.countP_cons_of_pos (by simp)]
    simp
  · rw [cset_other _ _ e]
    unfold cnt
    rw [List.countP_cons_of_neg (by simpa using fun h => e h.symm)]
theorem cnt_snoc (x : It) (L : List It) : cset (cnt L) (keyL x) (cnt L (keyL x) + 1) = cnt (L ++ [x]) := by
  rw [cnt_cons]
  exact cnt_perm (List.perm_append_singleton x L).symm
theorem cnt_tail (x : It) (L : List It) : cset (cnt (x :: L)) (keyL x) (cnt (x :: L) (keyL x) - 1) = cnt L := by
  rw [← cnt_cons, cset_same]
  funext k
  by_cases e : k = keyL x
  · subst e
    rw [cset_same]
    omega
  · rw [cset_other _ _ e, cset_other _ _ e]

/-- The tally as an object. -/
def TalO (o : Obj) (N : Nat) (g : Lit → Int) : Prop :=
  ∃ (D : DataW Unit) (es : Array MapEntry) (clock : Nat), o = .map es clock ∧ Fit (H := Unit) Try.prog 32 (plainElem Try.prog 3) es clock ∧ es.size ≤ N ∧ D = .map ((es.toList.map (rg Try.prog 32 (plainElem Try.prog 3))).foldr DataW.insert []) ∧ IsMap D ∧ ∀ k, D.atKey k (.lit (.int .i64 0)) = .lit (.int .i64 (g k))
theorem Tal.obj {w : World} {m N : Nat} {g : Lit → Int} (h : Tal w m N g) : ∃ o, w.heap[m]? = some o ∧ TalO o N g := by
  obtain ⟨D, ⟨es, clock, hb, F, hs, hD⟩, h1, h2⟩ := h
  exact ⟨_, hb, D, es, clock, rfl, F, hs, hD, h1, h2⟩
theorem TalO.tal {w : World} {m N : Nat} {g : Lit → Int} {o : Obj} (h : TalO o N g) (ho : w.heap[m]? = some o) : Tal w m N g := by
  obtain ⟨D, es, clock, rfl, F, hs, hD, h1, h2⟩ := h
  exact ⟨D, ⟨es, clock, ho, F, hs, hD⟩, h1, h2⟩

namespace Sys
variable {B m : Nat} {W0 W W' : World} {ps : List Pl} {os : List (Nat × Obj)} {rs : List (Value × List It)}
/-- One block, which is no pile's, turns. -/
theorem turn (h : Sys B W0 ps os rs W) (hk : Kept (fun k => k = m) W W') (hm : B ≤ m) (hp : ∀ (i : Nat) (p : Pl), ps[i]? = some p → ¬ Of p.b p.r m) {os' : List (Nat × Obj)} (ho : ∀ o ∈ os', o ∈ os ∧ o.1 ≠ m) : Sys B W0 ps os' [] W' :=
  ⟨h.below.trans (hk.below (fun k e => by rw [e]; exact hm) h.le), h.size, fun i p hp' => ⟨(h.pile i p hp').1.kept hk (fun k hof e => hp i p hp' (by rw [← e]; exact hof)), (h.pile i p hp').2⟩, h.apart,
    fun o hx => ⟨(hk.block _ (blk_lt (h.obj o (ho o hx).1).1) (ho o hx).2).trans (h.obj o (ho o hx).1).1, (h.obj o (ho o hx).1).2⟩, fun v hv => by simp at hv⟩
/-- An object that is known. -/
theorem know (h : Sys B W0 ps os rs W) {o : Obj} (ho : W.heap[m]? = some o) (hp : ∀ (i : Nat) (p : Pl), ps[i]? = some p → ¬ Of p.b p.r m) : Sys B W0 ps ((m, o) :: os) rs W :=
  ⟨h.below, h.size, h.pile, h.apart, fun x hx => by
    rcases List.mem_cons.1 hx with rfl | hx
    · exact ⟨ho, hp⟩
    · exact h.obj x hx, h.row⟩
end Sys

/-- k items are pushed into both piles, in the one from behind, and tallied. -/
def SoR (w : World) (b : Nat) (k : Nat) (l : List It) (wr : World) : Prop :=
  ∃ ra rb o, Sys w.heap.size w [⟨b + 1, 0, rb, srt (l.reverse.take k)⟩, ⟨b, 0, ra, srt (l.take k)⟩] [(b + 2, o)] [] wr ∧ TalO o k (cnt (l.take k)) ∧ w.heap.size ≤ b + 2

theorem SoR.start {w w1 : World} (hb : Below w.heap.size w w1) (l : List It) (t t' : TypeId) :
    SoR w w1.heap.size 0 l (((w1.alloc (.cells #[.slice none 0 0] t)).alloc (.cells #[.slice none 0 0] t')).alloc (.map #[] 0)) := by
  have h1 := ((Sys.start (Nat.le_refl _) hb).newPile t).newPile t'
  have h2 := h1.alloc (.map #[] 0)
  rw [World.size_alloc, World.size_alloc] at h2
  rw [World.size_alloc] at h2
  refine ⟨none, none, _, h2, ?_, by have := hb.size; omega⟩
  exact ⟨.map [], #[], 0, rfl, ⟨by simp, MapKept.stamped_empty 0, by simp⟩, Nat.le_refl _, rfl, Maps.isMap_empty, fun _ => rfl⟩

/-- One has been pushed into the first. -/
def SoA (w : World) (b : Nat) (k : Nat) (l : List It) (wr : World) : Prop :=
  ∃ ra rb o, Sys w.heap.size w [⟨b + 1, 0, rb, srt (l.reverse.take k)⟩, ⟨b, 0, ra, srt (l.take (k + 1))⟩] [(b + 2, o)] [] wr ∧ TalO o k (cnt (l.take k)) ∧ w.heap.size ≤ b + 2
def SoB (w : World) (b : Nat) (k : Nat) (l : List It) (wr : World) : Prop :=
  ∃ ra rb o, Sys w.heap.size w [⟨b + 1, 0, rb, srt (l.reverse.take (k + 1))⟩, ⟨b, 0, ra, srt (l.take (k + 1))⟩] [(b + 2, o)] [] wr ∧ TalO o k (cnt (l.take k)) ∧ w.heap.size ≤ b + 2

theorem SoR.push {w wr : World} {b k : Nat} {l : List It} (h : SoR w b k l wr) (hk : k < l.length) (hl : l.length ≤ 200) :
    Calls Try.prog 9 #[.pointer (some ⟨b, 0, none⟩), .agg #[.int .i64 (at_ l k).c, .int .i64 (at_ l k).t, .int .i64 (at_ l k).i]] wr fun e w' => e = .returned (.tuple #[]) ∧ SoA w b k l w' := by
  obtain ⟨ra, rb, o, hS, hT, hB⟩ := h
  refine (push_s (hS.pile 1 _ rfl).1 (at_ l k) (by show (srt (l.take k)).length ≤ 10000; rw [srt_length]; simp; omega)).mono fun e w' hq => ⟨hq.1, ?_⟩
  obtain ⟨r', h5⟩ := hS.push (i := 1) rfl hq
  refine ⟨r', rb, o, ?_, hT, hB⟩
  rw [take_snoc hk, srt_snoc]
  exact h5

theorem at_reverse {l : List It} {k : Nat} (h : k < l.length) : at_ l.reverse k = at_ l (l.length - 1 - k) := by
  rw [at_get (by simpa using h), at_get (by omega), List.getElem_reverse]

theorem SoA.push {w wr : World} {b k j : Nat} {l : List It} (h : SoA w b k l wr) (hk : k < l.length) (hl : l.length ≤ 200) (hj : j + k + 1 = l.length) :
    Calls Try.prog 9 #[.pointer (some ⟨b + 1, 0, none⟩), .agg #[.int .i64 (at_ l j).c, .int .i64 (at_ l j).t, .int .i64 (at_ l j).i]] wr fun e w' => e = .returned (.tuple #[]) ∧ SoB w b k l w' := by
  obtain ⟨ra, rb, o, hS, hT, hB⟩ := h
  have ej : at_ l.reverse k = at_ l j := by rw [at_reverse hk]; congr 1; omega
  rw [← ej]
  refine (push_s (hS.pile 0 _ rfl).1 (at_ l.reverse k) (by show (srt (l.reverse.take k)).length ≤ 10000; rw [srt_length]; simp; omega)).mono fun e w' hq => ⟨hq.1, ?_⟩
  obtain ⟨r', h5⟩ := hS.push (i := 0) rfl hq
  refine ⟨ra, r', o, ?_, hT, hB⟩
  rw [take_snoc (by simpa using hk : k < l.reverse.length), srt_snoc]
  exact h5

/-- The tally's step. -/
theorem SoB.tally {w wr : World} {b k : Nat} {l : List It} (h : SoB w b k l wr) (hk : k < l.length) (hl : l.length ≤ 200) (hw : ∀ x ∈ l, Wi x) :
    ∃ (c : Int) (v0 : Value) (st : Int) (w5 w6 : World), 0 ≤ c ∧ c ≤ 200 ∧
      (Instr.lookup 50 (.map (some (b + 2))) (.agg #[.int .i64 (at_ l k).c, .int .i64 (at_ l k).t, .int .i64 (at_ l k).i]) false).run Try.prog wr.drew = .ok (.int .i64 c) wr.drew ∧
      (Instr.mapEntry 50 (.map (some (b + 2))) (.agg #[.int .i64 (at_ l k).c, .int .i64 (at_ l k).t, .int .i64 (at_ l k).i])).run Try.prog wr.drew = .ok (.tuple #[v0, .int .i64 st]) w5 ∧
      (Instr.lookup 50 (.map (some (b + 2))) (.agg #[.int .i64 (at_ l k).c, .int .i64 (at_ l k).t, .int .i64 (at_ l k).i]) false).run Try.prog w5 = .ok (.int .i64 c) w5 ∧
      (Instr.entryStore 50 (.map (some (b + 2))) (.int .i64 st) (.int .i64 (c + 1))).run Try.prog w5 = .ok () w6 ∧ SoR w b (k + 1) l w6 := by
  obtain ⟨ra, rb, o, hS, hT, hB⟩ := h
  have hSd := hS.drew
  have hc := cnt_bounds (l.take k) (keyL (at_ l k))
  have hln : (l.take k).length ≤ 200 := by simp; omega
  have hd : (Lit.int .i64 (cnt (l.take k) (keyL (at_ l k)) + 1)).wf = true := WalkArith.wf_i64 (by omega)
  obtain ⟨v0, st, w5, w6, e1, e2, e3, e4, h6, h7⟩ := (hT.tal (hSd.obj _ (List.mem_singleton.2 rfl)).1).bump (by omega) (hw _ (at_mem hk)) hd
  refine ⟨_, v0, st, w5, w6, hc.1, by omega, e1, e2, e3, e4, ?_⟩
  obtain ⟨o', ho', hT'⟩ := h6.obj
  rw [cnt_snoc, ← take_snoc hk] at hT'
  have hnp := (hSd.obj _ (List.mem_singleton.2 rfl)).2
  exact ⟨ra, rb, o', (hSd.turn h7 hB hnp (os' := []) (fun _ h => by cases h)).know ho' hnp, hT', hB⟩
end Go.Proofs.Ytdhpphkkpjldfab
