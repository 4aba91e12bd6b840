/-
  What the row's condition gives, and the arguments as they come in.
-/
import Derived.Test.YtcbgadjnheagmaaDoorWi7
import Derived.ProofKit
import Derived.LaidMore
import Derived.OpenShut
import Derived.Stop.Joined
import Derived.ChangeSlices
import Derived.ChangeSame
namespace Go.Proofs.YtcbgadjnheagmaaDoor
set_option maxRecDepth 100000
set_option linter.unusedSimpArgs false
open Go.ChangeShapes Go.WideShapes Go.ChangeAt Go.RowKit

abbrev laid1 : List (String × DataW Unit) := Rows.windowMissesRow.laid
def tabName : String := Rows.windowMissesRow.named.headD ""
theorem gTab : Tryd.prog.globalNamed tabName = some 0 := by kernel_rfl
theorem tTab : (Tryd.prog.globals[0]?).map (·.type) = some 51 := by kernel_rfl

theorem of_laid {W : World} (h : laidMetH Tryd.prog laid1 W) : Tab W := by
  rw [MakeChecks.laidMetH_plain _ _ _ (by kernel_rfl)] at h
  obtain ⟨ps, ⟨g0, t0, cs0, f0, p0, q0, hg0, ht0, hv0, hd0, _, _⟩, _, _⟩ := h
  obtain rfl := Option.some.inj (gTab.symm.trans hg0)
  obtain rfl := Option.some.inj (tTab.symm.trans ht0)
  obtain ⟨xs, m1, rfl, hx1, _, hn, hel⟩ := DataW.trod_array Tryd.underlying51 hd0
  have c1 : Tryd.prog.cellsOf 5 = 1 := by kernel_rfl
  rw [c1] at hel
  have hx := (congrArg Prod.fst hx1).symm
  obtain ⟨l0⟩ := cs0
  have hcell0 := World.var?_cell hg0 hv0
  simp only at hel
  have hx2 : xs.map (·.1) = Go.Lib.deBruijn64tab.map (fun n => (.lit (.int .u8 (n : Nat)) : DataW Unit)) := by
    simp only [Rows.laid_math_bits_deBruijn64tab, DataW.agg.injEq] at hx
    rw [hx]; rfl
  intro j hj
  have hlen : xs.length = 64 := by
    have := congrArg List.length hx2
    rw [List.length_map, List.length_map] at this
    exact this
  have h1 := hel j hj
  rw [List.getElem?_eq_getElem (by omega)] at h1
  obtain ⟨a, e0, f0, _⟩ := DataW.trod_int Tryd.underlying5 h1
  have h2 : (xs.map (·.1))[j]? = some (xs[j]).1 := by rw [List.getElem?_map, List.getElem?_eq_getElem (by omega)]; rfl
  rw [hx2, f0] at h2
  have hd : j < Go.Lib.deBruijn64tab.length := hj
  rw [List.getElem?_map, List.getElem?_eq_getElem hd] at h2
  have h3 : ((Go.Lib.deBruijn64tab[j] : Nat) : Int) = a := by simpa using h2
  rw [hcell0]
  have h4 : l0[j]? = some (.int .u8 a) := by
    have e1 : ((l0.drop (j * 1)).take 1)[0]? = some (.int .u8 a) := by rw [e0]; rfl
    rw [List.getElem?_take, if_pos (by omega), List.getElem?_drop] at e1
    simpa using e1
  have h5 : Go.Lib.deBruijn64tab.getD j 0 = Go.Lib.deBruijn64tab[j] := by rw [List.getD_eq_getElem?_getD, List.getElem?_eq_getElem hd]; rfl
  rw [h5, h3]
  simpa using h4

/-- Numbers of a kind in memory. -/
def NumsAt (k : IntKind) (w : World) (A : Option Addr) (l : List Nat) : Prop := ∀ j, j < l.length → ∃ a, A = some a ∧ a.block < w.heap.size ∧ w.cell? (a.add j) = some (.int k ((l.getD j 0 : Nat) : Int))
theorem NumsAt.below {k : IntKind} {w w' : World} {A : Option Addr} {l : List Nat} (h : NumsAt k w A l) {B : Nat} (hb : Below B w w') (hB : w.heap.size ≤ B) : NumsAt k w' A l := by
  intro j hj
  obtain ⟨a, e, h1, h2⟩ := h j hj
  refine ⟨a, e, Nat.lt_of_lt_of_le h1 hb.size, ?_⟩
  have hbk : (a.add j).block = a.block := by unfold Addr.add; split <;> rfl
  exact (World.cell?_of_block (hb.block _ (by rw [hbk]; omega))).trans h2
theorem wf_u32 {n : Int} (h : (Lit.int .u32 n).wf = true) : 0 ≤ n ∧ n ≤ 4294967295 := by
  have h1 : IntKind.u32.min = 0 := rfl
  have h2 : IntKind.u32.max = 4294967295 := rfl
  simp only [Lit.wf, Bool.and_eq_true, decide_eq_true_eq] at h
  omega
theorem wf_u8 {n : Int} (h : (Lit.int .u8 n).wf = true) : 0 ≤ n ∧ n ≤ 255 := by
  have h1 : IntKind.u8.min = 0 := rfl
  have h2 : IntKind.u8.max = 255 := rfl
  simp only [Lit.wf, Bool.and_eq_true, decide_eq_true_eq] at h
  omega
section
variable {H : Type} {enc : TypeId × Value → H} {w : World} {base : Nat} {spare : Nat → Bool} {held : Bool}
theorem nums_of {T e : TypeId} {k : IntKind} {M : Nat} (hT : Tryd.prog.underlying T = some (.slice e)) (he : Tryd.prog.underlying e = some (.int k)) (hc : Tryd.prog.cellsOf e = 1) (hw : ∀ n : Int, (Lit.int k n).wf = true → 0 ≤ n ∧ n ≤ M)
    {v : Value} {d : DataW H} {ps : List MemPlace} {r : Reach} {b0 : Nat} (hv : Value.okWide Tryd.prog w r b0 T v) (h : DataW.Trod enc Tryd.prog w base spare held T v d ps) :
    ∃ (A : Option Addr) (l : List Nat) (cap : Nat), v = .slice A l.length cap ∧ NumsAt k w A l ∧ (∀ x ∈ l, x ≤ M) ∧ l.length ≤ cap ∧ cap ≤ maxLen ∧ (A = none → l = [] ∧ cap = 0) := by
  obtain ⟨a, len, cap, rfl⟩ := okWide_slice hT hv
  obtain ⟨fuel, hf⟩ := h
  rcases Go.ChangeShapes.open_ints hT he hc hf with ⟨h0, _⟩ | ⟨a', len', cap', zs, hcs, hb, hl, hm, hz, _, hi, hwf⟩
  · have e : (Value.slice a len cap) = .slice none 0 0 := by simpa [Value.cells] using h0
    cases e
    exact ⟨none, [], 0, rfl, fun k hk => by simp at hk, by simp, by simp, by simp [maxLen], fun _ => ⟨rfl, rfl⟩⟩
  · have e : (Value.slice a len cap) = .slice (some a') len' cap' := by simpa [Value.cells] using hcs
    cases e
    have hzl : len ≤ zs.length := by rw [hz]; split <;> omega
    have htl : ((zs.take len).map Int.toNat).length = len := by rw [List.length_map, List.length_take]; omega
    refine ⟨some a', (zs.take len).map Int.toNat, cap, by rw [htl], fun j hj => ?_, fun x hx => ?_, by rw [htl]; exact hl, hm, fun e => by cases e⟩
    · rw [htl] at hj
      have h1 := hi j (by omega)
      refine ⟨a', rfl, ?_, ?_⟩
      · have := World.block_lt_of_cell? w _ h1
        have hbk : (a'.add j).block = a'.block := by unfold Addr.add; split <;> rfl
        rwa [hbk] at this
      · rw [h1]
        have hjz : j < zs.length := by omega
        have h2 := (hw _ (hwf _ (List.getElem_mem hjz))).1
        have h3 : ((zs.take len).map Int.toNat).getD j 0 = (zs[j]).toNat := by
          rw [List.getD_eq_getElem?_getD, List.getElem?_map, List.getElem?_take, if_pos hj, List.getElem?_eq_getElem hjz]; rfl
        have h4 : zs.getD j 0 = zs[j] := by rw [List.getD_eq_getElem?_getD, List.getElem?_eq_getElem hjz]; rfl
        rw [h3, h4, Int.toNat_of_nonneg h2]
    · obtain ⟨z, hz2, rfl⟩ := List.mem_map.1 hx
      have h2 := hw _ (hwf z (List.mem_of_mem_take hz2))
      omega
theorem u32s_in {v : Value} {d : DataW H} {ps : List MemPlace} {r : Reach} {b0 : Nat} (hv : Value.okWide Tryd.prog w r b0 22 v) (h : DataW.Trod enc Tryd.prog w base spare held 22 v d ps) :
    ∃ (A : Option Addr) (l : List Nat) (cap : Nat), v = .slice A l.length cap ∧ NumsAt .u32 w A l ∧ (∀ x ∈ l, x ≤ 4294967295) ∧ l.length ≤ cap ∧ cap ≤ maxLen ∧ (A = none → l = [] ∧ cap = 0) :=
  nums_of Tryd.underlying22 Tryd.underlying23 (by kernel_rfl) (fun n h => wf_u32 h) hv h
theorem u8s_in {v : Value} {d : DataW H} {ps : List MemPlace} {r : Reach} {b0 : Nat} (hv : Value.okWide Tryd.prog w r b0 43 v) (h : DataW.Trod enc Tryd.prog w base spare held 43 v d ps) :
    ∃ (A : Option Addr) (l : List Nat) (cap : Nat), v = .slice A l.length cap ∧ NumsAt .u8 w A l ∧ (∀ x ∈ l, x ≤ 255) ∧ l.length ≤ cap ∧ cap ≤ maxLen ∧ (A = none → l = [] ∧ cap = 0) :=
  nums_of Tryd.underlying43 Tryd.underlying5 (by kernel_rfl) (fun n h => wf_u8 h) hv h
end
end Go.Proofs.YtcbgadjnheagmaaDoor
