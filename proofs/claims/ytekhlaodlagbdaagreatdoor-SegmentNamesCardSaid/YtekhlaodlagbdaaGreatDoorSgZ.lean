/-
  A plan's doors, pure: which there are, and to which segments.
-/
import Derived.Test.YtekhlaodlagbdaaGreatDoorSgY
import Derived.Test.YtekhlaodlagbdaaGreatDoorSgU
namespace Go.Proofs.YtekhlaodlagbdaaGreatDoor
set_option maxRecDepth 100000
set_option linter.unusedSimpArgs false
open Go Go.RowKit

section
variable {R C : Nat} {ms : List UInt8} {st : Sg.Pl} {s : Nat}
theorem mem_dorA {a k : Nat} {d : Nat × Nat} : d ∈ dorA R C ms st s a k ↔ d.1 = a ∧ d.2 ∈ (outs R C ms a).take k ∧ st.of.getD d.2 0 ≠ (s : Int) := by
  unfold dorA
  simp only [List.mem_map, List.mem_filter, bne_iff_ne, ne_eq]
  constructor
  · rintro ⟨b, ⟨h1, h2⟩, rfl⟩; exact ⟨rfl, h1, h2⟩
  · rintro ⟨rfl, h1, h2⟩; exact ⟨d.2, ⟨h1, h2⟩, rfl⟩
theorem mem_dorK {l : List Nat} {k : Nat} {d : Nat × Nat} : d ∈ dorK R C ms st s l k ↔ d.1 ∈ l.take k ∧ d.2 ∈ outs R C ms d.1 ∧ st.of.getD d.2 0 ≠ (s : Int) := by
  unfold dorK
  simp only [List.mem_flatMap]
  constructor
  · rintro ⟨a, ha, hd⟩
    obtain ⟨h1, h2, h3⟩ := mem_dorA.1 hd
    subst h1
    rw [List.take_of_length_le (outs_len R C ms d.1)] at h2
    exact ⟨ha, h2, h3⟩
  · rintro ⟨h1, h2, h3⟩
    exact ⟨d.1, h1, mem_dorA.2 ⟨rfl, by rw [List.take_of_length_le (outs_len R C ms d.1)]; exact h2, h3⟩⟩
/-- A door goes from a cell of the segment along an edge to a cell of another one. -/
theorem mem_dorF {d : Nat × Nat} : d ∈ dorF R C ms st s ↔ d.1 ∈ st.cells.getD s [] ∧ d.2 ∈ outs R C ms d.1 ∧ st.of.getD d.2 0 ≠ (s : Int) := by
  unfold dorF
  rw [mem_dorK, List.take_length]

/-- The segments behind doors, in the order in which they are told. -/
def nxL (R C : Nat) (ms : List UInt8) (st : Sg.Pl) (s : Nat) : List Nat := (dorF R C ms st s).map fun d => (st.of.getD d.2 0).toNat
/-- The same, rising, each once. -/
def nxF (R C : Nat) (ms : List UInt8) (st : Sg.Pl) (s : Nat) : List Nat := (List.range st.cells.length).filter fun t => decide (t ∈ nxL R C ms st s)
theorem nxF_rise (R C : Nat) (ms : List UInt8) (st : Sg.Pl) (s : Nat) : (nxF R C ms st s).Pairwise (· < ·) := List.Pairwise.filter _ (List.pairwise_lt_range (n := st.cells.length))
theorem nxF_mem {t : Nat} : t ∈ nxF R C ms st s ↔ t < st.cells.length ∧ t ∈ nxL R C ms st s := by
  unfold nxF
  rw [List.mem_filter, List.mem_range, decide_eq_true_eq]
theorem nxF_of (hb : ∀ t ∈ nxL R C ms st s, t < st.cells.length) : ∃ m, Lib.compact (intsQ (srtQ (nxL R C ms st s))) = intsQ m ∧ m = nxF R C ms st s := by
  have hs : (srtQ (nxL R C ms st s)).Pairwise (· ≤ ·) := by
    have := List.pairwise_mergeSort (le := fun x y : Nat => decide (x ≤ y)) (fun a b c h1 h2 => by simp at *; omega) (fun a b => by simp; omega) (nxL R C ms st s)
    unfold srtQ
    exact this.imp (fun h => by simpa using h)
  obtain ⟨m, h1, h2, h3⟩ := compact_rise hs
  refine ⟨m, h1, rise_ext h2 (nxF_rise R C ms st s) fun x => ?_⟩
  rw [h3 x]
  unfold srtQ
  rw [List.mem_mergeSort, nxF_mem]
  exact ⟨fun h => ⟨hb x h, h⟩, fun h => h.2⟩
theorem nxF_len : (nxF R C ms st s).length ≤ (srtQ (nxL R C ms st s)).length := by
  have hn : (nxF R C ms st s).Nodup := (List.nodup_iff_pairwise_ne.2 ((nxF_rise R C ms st s).imp (fun h => Nat.ne_of_lt h)))
  refine hn.length_le_of_subset fun x hx => ?_
  unfold srtQ
  rw [List.mem_mergeSort]
  exact (nxF_mem.1 hx).2
theorem nxL_len : (nxL R C ms st s).length ≤ 4 * (st.cells.getD s []).length := by
  unfold nxL
  rw [List.length_map]
  exact dorK_len _ _
end

/-- In a plan that was made each door leads to a segment. -/
theorem door_seg {R C : Nat} {ms : List UInt8} (hC : 1 ≤ C) (hN : R * C = ms.length) {s : Nat} {d : Nat × Nat} (hd : d ∈ dorF R C ms (planF R C ms) s) :
    d.1 < ms.length ∧ d.2 < ms.length ∧ 0 ≤ (planF R C ms).of.getD d.2 0 ∧ ((planF R C ms).of.getD d.2 0).toNat < (planF R C ms).cells.length ∧ d.2 ∈ (planF R C ms).cells.getD ((planF R C ms).of.getD d.2 0).toNat [] := by
  obtain ⟨hI, hfr⟩ := plan_ok hC hN
  obtain ⟨h1, h2, h3⟩ := mem_dorF.1 hd
  have ha : d.1 < ms.length := out_from h2
  have hf := out_facts hC hN ha h2
  have h0 := hfr d.2 hf.1 hf.2.2.2.1
  obtain ⟨k, hk⟩ := Int.eq_ofNat_of_zero_le h0
  have hx := ((hI.of d.2 hf.1).2 k).1 hk
  refine ⟨ha, hf.1, h0, ?_⟩
  rw [hk, Int.toNat_natCast]
  exact hx
end Go.Proofs.YtekhlaodlagbdaaGreatDoor
