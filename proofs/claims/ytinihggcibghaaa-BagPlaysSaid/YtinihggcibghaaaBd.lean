/-
  The law BagOrder.
-/
import Derived.Test.YtinihggcibghaaaBa
import Derived.Test.YtinihggcibghaaaBq
import Derived.Test.YtinihggcibghaaaBc
import Derived.Deep.DeepCutAuto
import Derived.Deep.CutBlock
import Derived.Test.YtinihggcibghaaaTk
import Derived.Deep.RegionHeld3
namespace Go.Proofs.Ytinihggcibghaaa
set_option maxRecDepth 100000
set_option linter.unusedSimpArgs false
open Go Go.RowKit Bg
attribute [local go_sem] Oper.semAt_some

namespace Bg
/-- In order. -/
structure Srt (b : St) : Prop where
  up : b.l.Pairwise (fun x y : Fl => x.n < y.n)
  le : ∀ x ∈ b.l, 1 ≤ x.n ∧ x.n ≤ (b.last : Int)
theorem Srt.zero : Srt zero := ⟨List.Pairwise.nil, fun _ h => absurd h (List.not_mem_nil)⟩
theorem Srt.come {b : St} (h : Srt b) (f t : Int) (d : List Nat) (s : Bool) : Srt (comeS b f t d s) := by
  unfold comeS
  split
  · exact ⟨h.up, h.le⟩
  · refine ⟨?_, fun x hx => ?_⟩
    · simp only
      rw [List.pairwise_append]
      refine ⟨h.up, by simp, fun a ha c hc => ?_⟩
      rw [List.mem_singleton] at hc
      subst hc
      have := (h.le a ha).2
      simp only; omega
    · rcases List.mem_append.1 hx with hx | hx
      · have := h.le x hx
        simp only; omega
      · rw [List.mem_singleton] at hx
        subst hx
        simp only; omega
theorem Srt.c {b : St} (h : Srt b) (c : Ct) : Srt { b with c := c } := ⟨h.up, h.le⟩
theorem Srt.erase {b : St} (h : Srt b) (i : Nat) (c : Ct) : Srt { b with l := b.l.eraseIdx i, c := c } := ⟨h.up.sublist (List.eraseIdx_sublist _ _), fun x hx => h.le x (List.mem_of_mem_eraseIdx hx)⟩
theorem Srt.send {b : St} (h : Srt b) (f t : Int) (d : List Nat) : Srt (sendS b f t d) := (h.c _).come f t d false
theorem Srt.del {b : St} (h : Srt b) (n : Int) : Srt (delS b n) := by
  unfold delS; split
  · exact h
  · exact h.erase _ _
theorem Srt.drop {b : St} (h : Srt b) (n : Int) : Srt (dropS b n) := by
  unfold dropS; split
  · exact h
  · exact h.erase _ _
theorem Srt.dbl {b : St} (h : Srt b) (n : Int) : Srt (dblS b n) := by
  unfold dblS; split
  · exact h
  · exact (h.c _).come _ _ _ _
theorem map_n_set {l : List Fl} {i : Nat} (hi : i < l.length) {y : Fl} (hy : y.n = (l.getD i noFl).n) : (l.set i y).map (·.n) = l.map (·.n) := by
  apply List.ext_getElem?
  intro j
  rw [List.getElem?_map, List.getElem?_map, List.getElem?_set]
  split
  · rename_i h
    subst h
    rw [List.getElem?_eq_getElem hi]
    simp only [Option.map_some]
    rw [hy, List.getD_eq_getElem?_getD, List.getElem?_eq_getElem hi]
    rfl
  · rfl
theorem Srt.spoil {b : St} (h : Srt b) (n a : Int) (v : Nat) : Srt (spoilS b n a v) := by
  unfold spoilS; split
  · exact h
  · rename_i i hi
    split
    · have hi := (idx_some hi).1
      have e := map_n_set hi (y := spoilt (b.l.getD i noFl) a.toNat v) rfl
      refine ⟨?_, fun x hx => ?_⟩
      · have h1 := h.up
        rw [← List.pairwise_map (f := fun x : Fl => x.n) (R := fun x y => x < y)] at h1 ⊢
        simp only
        rw [e]; exact h1
      · simp only at hx
        have : x.n ∈ (b.l.set i (spoilt (b.l.getD i noFl) a.toNat v)).map (·.n) := List.mem_map.2 ⟨x, hx, rfl⟩
        rw [e] at this
        obtain ⟨y, hy, e2⟩ := List.mem_map.1 this
        have := h.le y hy
        simp only at e2 ⊢
        omega
    · exact h
/-- A packet's number is its own. -/
theorem Srt.idx {b : St} (h : Srt b) {i : Nat} (hi : i < b.l.length) : idx b.l (b.l.getD i noFl).n = some i := by
  unfold Bg.idx
  rw [List.findIdx?_eq_some_iff_getElem]
  have e : b.l.getD i noFl = b.l[i] := by rw [List.getD_eq_getElem?_getD, List.getElem?_eq_getElem hi]; rfl
  rw [e]
  refine ⟨hi, by simp, fun j hj => ?_⟩
  have := (List.pairwise_iff_getElem.1 h.up) j i (by omega) hi hj
  have hne : ¬ b.l[j].n = b.l[i].n := by omega
  simpa using hne
theorem Srt.lt {b : St} (h : Srt b) {i : Nat} (hi : i + 1 < b.l.length) : (b.l.getD i noFl).n < (b.l.getD (i + 1) noFl).n := by
  have := (List.pairwise_iff_getElem.1 h.up) i (i + 1) (by omega) hi (by omega)
  rw [List.getD_eq_getElem?_getD, List.getElem?_eq_getElem (by omega), List.getD_eq_getElem?_getD, List.getElem?_eq_getElem hi]
  exact this
/-- What a call does. -/
def opS (b : St) (x : Cl) : St := if x.kind = 0 then sendS b x.n x.at_ x.d else if x.kind = 1 then delS b x.n else if x.kind = 2 then dropS b x.n else if x.kind = 3 then dblS b x.n else if x.kind = 4 then spoilS b x.n x.at_ x.v else b
theorem Srt.op {b : St} (h : Srt b) (x : Cl) : Srt (opS b x) := by
  unfold opS
  split
  · exact h.send _ _ _
  split
  · exact h.del _
  split
  · exact h.drop _
  split
  · exact h.dbl _
  split
  · exact h.spoil _ _ _
  · exact h
theorem Bd.op {k : Nat} {b : St} (h : Bd k b) (x : Cl) (hd : x.d.length ≤ 60) (hc : ∀ c ∈ x.d, c < 256) (hv : x.v < 256) : Bd (k + 2) (opS b x) := by
  unfold opS
  split
  · exact h.send _ _ hd hc
  split
  · exact (h.del1 _).mono (by omega)
  split
  · exact (h.drop1 _).mono (by omega)
  split
  · exact h.dbl2 _
  split
  · exact (h.spoil1 _ _ hv).mono (by omega)
  · exact h.mono (by omega)
end Bg

/-- Between two rounds. -/
def OrdI (w : World) (o j : Nat) (W : World) : Prop := ∃ b : St, One 29 w o b W ∧ Bd (2 * j) b ∧ Srt b

end Go.Proofs.Ytinihggcibghaaa
