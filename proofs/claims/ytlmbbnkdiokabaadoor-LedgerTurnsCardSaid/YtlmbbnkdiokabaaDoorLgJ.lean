/-
  What the row's condition gives; numbers as they come in.
-/
import Derived.Test.YtlmbbnkdiokabaaDoorLgI
import Derived.ProofKit
import Derived.LaidMore
import Derived.OpenShut
import Derived.Stop.Joined
import Derived.ChangeSlices
import Derived.ChangeSame
namespace Go.Proofs.YtlmbbnkdiokabaaDoor
set_option maxRecDepth 100000
set_option linter.unusedSimpArgs false
open Go.ChangeShapes Go.WideShapes Go.ChangeAt Go.RowKit

abbrev laid1 : List (String × DataW Unit) := Rows.ledgerTurnsRow.laid
def firstName : String := Rows.ledgerTurnsRow.named.headD ""
theorem gFirst : Tryd.prog.globalNamed firstName = some 0 := by kernel_rfl
theorem tFirst : (Tryd.prog.globals[0]?).map (·.type) = some 81 := by kernel_rfl
theorem of_laid {W : World} (h : laidMetH Tryd.prog laid1 W) : AF W := by
  rw [MakeChecks.laidMetH_plain _ _ _ (by kernel_rfl)] at h
  obtain ⟨ps, ⟨g0, t0, cs0, f0, p0, q0, hg0, ht0, hv0, hd0, _, _⟩, _, _⟩ := h
  obtain rfl := Option.some.inj (gFirst.symm.trans hg0)
  obtain rfl := Option.some.inj (tFirst.symm.trans ht0)
  obtain ⟨xs, m1, hm1, hx1, hlen, hl, hf⟩ := DataW.trod_struct Tryd.underlying81 hd0
  have hx := (congrArg Prod.fst hx1).symm
  have hc : Tryd.prog.cellsOf 81 = 2 := by kernel_rfl
  have q1 : Tryd.prog.cellsOf 3 = 1 := by kernel_rfl
  have q2 : Tryd.prog.cellsOf 37 = 1 := by kernel_rfl
  obtain ⟨l0⟩ := cs0
  rw [hc] at hlen
  have hcell0 := World.var?_cell hg0 hv0
  match l0, hlen with
  | [v0, v1], _ =>
    match xs, hl with
    | [y0, y1], _ =>
      obtain ⟨a, e0', f0', _⟩ := DataW.trod_int (x := y0) Tryd.underlying3 (hf 0 _ rfl)
      obtain ⟨b, e1', f1', _⟩ := DataW.trod_int (x := y1) Tryd.underlying37 (hf 1 _ rfl)
      simp [q1, q2] at e0' e1'
      have hx2 : (DataW.agg [y0.1, y1.1] : DataW Unit) = Rows.laid_wagonway_ledger_atFirst := by
        simpa using hx
      rw [f0', f1'] at hx2
      simp only [Rows.laid_wagonway_ledger_atFirst, DataW.agg.injEq, List.cons.injEq, DataW.lit.injEq, Lit.int.injEq, true_and, and_true] at hx2
      obtain ⟨ha, hb⟩ := hx2
      refine ⟨?_, ?_⟩
      · rw [hcell0, e0', ha]; rfl
      · rw [hcell0, e1', hb]; rfl

/-- Numbers of a kind in memory. -/
def NumsAt (k : IntKind) (w : World) (A : Option Addr) (l : List Nat) : Prop := ∀ j, j < l.length → ∃ a, A = some a ∧ a.block < w.heap.size ∧ w.cell? (a.add j) = some (.int k ((l.getD j 0 : Nat) : Int))
theorem NumsAt.below {k : IntKind} {w w' : World} {A : Option Addr} {l : List Nat} (h : NumsAt k w A l) {B : Nat} (hb : Below B w w') (hB : w.heap.size ≤ B) : NumsAt k w' A l := by
  intro j hj
  obtain ⟨a, e, h1, h2⟩ := h j hj
  refine ⟨a, e, Nat.lt_of_lt_of_le h1 hb.size, ?_⟩
  have hbk : (a.add j).block = a.block := by unfold Addr.add; split <;> rfl
  exact (World.cell?_of_block (hb.block _ (by rw [hbk]; omega))).trans h2
theorem wf_u16 {n : Int} (h : (Lit.int .u16 n).wf = true) : 0 ≤ n ∧ n ≤ 65535 := by
  have h1 : IntKind.u16.min = 0 := rfl
  have h2 : IntKind.u16.max = 65535 := rfl
  simp only [Lit.wf, Bool.and_eq_true, decide_eq_true_eq] at h
  omega
theorem wf_u8 {n : Int} (h : (Lit.int .u8 n).wf = true) : 0 ≤ n ∧ n ≤ 255 := by
  have h1 : IntKind.u8.min = 0 := rfl
  have h2 : IntKind.u8.max = 255 := rfl
  simp only [Lit.wf, Bool.and_eq_true, decide_eq_true_eq] at h
  omega
section
variable {H : Type} {enc : TypeId × Value → H} {w : World} {base : Nat} {spare : Nat → Bool} {held : Bool}
theorem nums_of {T e : TypeId} {k : IntKind} {M : Nat} (hT : Tryd.prog.underlying T = some (.slice e)) (he : Tryd.prog.underlying e = some (.int k)) (hc : Tryd.prog.cellsOf e = 1) (hw : ∀ n : Int, (Lit.int k n).wf = true → 0 ≤ n ∧ n ≤ M)
    {v : Value} {d : DataW H} {ps : List MemPlace} {r : Reach} {b0 : Nat} (hv : Value.okWide Tryd.prog w r b0 T v) (h : DataW.Trod enc Tryd.prog w base spare held T v d ps) :
    ∃ (A : Option Addr) (l : List Nat) (cap : Nat), v = .slice A l.length cap ∧ NumsAt k w A l ∧ (∀ x ∈ l, x ≤ M) ∧ l.length ≤ cap ∧ cap ≤ maxLen ∧ (A = none → l = [] ∧ cap = 0) := by
  obtain ⟨a, len, cap, rfl⟩ := okWide_slice hT hv
  obtain ⟨fuel, hf⟩ := h
  rcases Go.ChangeShapes.open_ints hT he hc hf with ⟨h0, _⟩ | ⟨a', len', cap', zs, hcs, hb, hl, hm, hz, _, hi, hwf⟩
  · have e : (Value.slice a len cap) = .slice none 0 0 := by simpa [Value.cells] using h0
    cases e
    exact ⟨none, [], 0, rfl, fun k hk => by simp at hk, by simp, by simp, by simp [maxLen], fun _ => ⟨rfl, rfl⟩⟩
  · have e : (Value.slice a len cap) = .slice (some a') len' cap' := by simpa [Value.cells] using hcs
    cases e
    have hzl : len ≤ zs.length := by rw [hz]; split <;> omega
    have htl : ((zs.take len).map Int.toNat).length = len := by rw [List.length_map, List.length_take]; omega
    refine ⟨some a', (zs.take len).map Int.toNat, cap, by rw [htl], fun j hj => ?_, fun x hx => ?_, by rw [htl]; exact hl, hm, fun e => by cases e⟩
    · rw [htl] at hj
      have h1 := hi j (by omega)
      refine ⟨a', rfl, ?_, ?_⟩
      · have := World.block_lt_of_cell? w _ h1
        have hbk : (a'.add j).block = a'.block := by unfold Addr.add; split <;> rfl
        rwa [hbk] at this
      · rw [h1]
        have hjz : j < zs.length := by omega
        have h2 := (hw _ (hwf _ (List.getElem_mem hjz))).1
        have h3 : ((zs.take len).map Int.toNat).getD j 0 = (zs[j]).toNat := by
          rw [List.getD_eq_getElem?_getD, List.getElem?_map, List.getElem?_take, if_pos hj, List.getElem?_eq_getElem hjz]; rfl
        have h4 : zs.getD j 0 = zs[j] := by rw [List.getD_eq_getElem?_getD, List.getElem?_eq_getElem hjz]; rfl
        rw [h3, h4, Int.toNat_of_nonneg h2]
    · obtain ⟨z, hz2, rfl⟩ := List.mem_map.1 hx
      have h2 := hw _ (hwf z (List.mem_of_mem_take hz2))
      omega
theorem u16s_in {v : Value} {d : DataW H} {ps : List MemPlace} {r : Reach} {b0 : Nat} (hv : Value.okWide Tryd.prog w r b0 77 v) (h : DataW.Trod enc Tryd.prog w base spare held 77 v d ps) :
    ∃ (A : Option Addr) (l : List Nat) (cap : Nat), v = .slice A l.length cap ∧ NumsAt .u16 w A l ∧ (∀ x ∈ l, x ≤ 65535) ∧ l.length ≤ cap ∧ cap ≤ maxLen ∧ (A = none → l = [] ∧ cap = 0) :=
  nums_of Tryd.underlying77 Tryd.underlying78 (by kernel_rfl) (fun n h => wf_u16 h) hv h
theorem u8s_in {v : Value} {d : DataW H} {ps : List MemPlace} {r : Reach} {b0 : Nat} (hv : Value.okWide Tryd.prog w r b0 52 v) (h : DataW.Trod enc Tryd.prog w base spare held 52 v d ps) :
    ∃ (A : Option Addr) (l : List Nat) (cap : Nat), v = .slice A l.length cap ∧ NumsAt .u8 w A l ∧ (∀ x ∈ l, x ≤ 255) ∧ l.length ≤ cap ∧ cap ≤ maxLen ∧ (A = none → l = [] ∧ cap = 0) :=
  nums_of Tryd.underlying52 Tryd.underlying5 (by kernel_rfl) (fun n h => wf_u8 h) hv h
end
end Go.Proofs.YtlmbbnkdiokabaaDoor
