/-
  PROVED HERE: for every list of items, the law PileSorts answers true: in whatever order they are pushed, two piles pop them in their order, each as often as it was pushed.
  Conditions: none beyond the row's own.
-/
import Derived.Test.YtdhpphkkpjldfabPSo4
import Derived.ProofKit
import Derived.Carry
namespace Go.Proofs.Ytdhpphkkpjldfab
set_option maxRecDepth 100000
open Go Go.RowKit Pq
open Go.ChangeShapes Go.WideShapes Go.ChangeAt

section
variable {H : Type} {enc : TypeId × Value → H} {w : World} {base : Nat} {spare : Nat → Bool} {held : Bool}

/-- A list of items as it comes in: each within an int's bounds. -/
theorem items_wi {A : Option Addr} {l : List It} {cap : Nat} {d : DataW H} {ps : List MemPlace} (h : DataW.Trod enc Try.prog w base spare held 24 (.slice A l.length cap) d ps) (hI : ItemsAt w A l) : ∀ x ∈ l, Wi x := by
  obtain ⟨fuel, hf⟩ := h
  have hc : Try.prog.cellsOf 32 = 3 := by kernel_rfl
  have hci : Try.prog.cellsOf 3 = 1 := by kernel_rfl
  intro x hx
  obtain ⟨j, hj, rfl⟩ := List.getElem_of_mem hx
  rw [← at_get hj]
  obtain ⟨a, rfl, _, g0, g1, g2⟩ := hI j hj
  rcases Deep.open_slice Try.underlying24 hf with ⟨h0, _⟩ | ⟨a', len', cap', m, n, D, Pl, hcs, hb, hl, hm, hmm, hx', hi⟩
  · simp [Value.cells] at h0
  · have e : (Value.slice (some a) l.length cap) = .slice (some a') len' cap' := by simpa [Value.cells] using hcs
    cases e
    have hml : l.length ≤ m := by rw [hmm]; split <;> omega
    obtain ⟨cs', hcs', ht⟩ := hi j (by omega)
    rw [hc] at hcs'
    obtain ⟨xs, n, _, _, hlen, hxl, hfd⟩ := DataW.trod_struct Try.underlying32 ht
    rw [hc] at hlen
    match cs', hlen with
    | [c0, c1, c2], _ =>
      match xs, hxl with
      | [y0, y1, y2], _ =>
        have f0 : DataW.trod enc Try.prog w base spare held n 3 ((([c0, c1, c2] : List Value).drop 0).take (Try.prog.cellsOf 3)) = ([y0, y1, y2] : List _)[0]? := hfd 0 _ rfl
        have f1 : DataW.trod enc Try.prog w base spare held n 3 ((([c0, c1, c2] : List Value).drop 1).take (Try.prog.cellsOf 3)) = ([y0, y1, y2] : List _)[1]? := hfd 1 _ rfl
        have f2 : DataW.trod enc Try.prog w base spare held n 3 ((([c0, c1, c2] : List Value).drop 2).take (Try.prog.cellsOf 3)) = ([y0, y1, y2] : List _)[2]? := hfd 2 _ rfl
        rw [hci] at f0 f1 f2
        obtain ⟨n0, e0, _, w0⟩ := DataW.trod_int Try.underlying3 f0
        obtain ⟨n1, e1, _, w1⟩ := DataW.trod_int Try.underlying3 f1
        obtain ⟨n2, e2, _, w2⟩ := DataW.trod_int Try.underlying3 f2
        simp at e0 e1 e2
        obtain ⟨_, hcl, hat⟩ := World.cells?_some hcs'
        have h0 := hat 0 (by omega)
        have h1 := hat 1 (by omega)
        have h2 := hat 2 (by omega)
        have ea : (a.add (j * 3)).add 0 = a.add (j * 3) := by simp [Addr.add]
        rw [ea, g0] at h0
        replace h1 := g1.symm.trans h1
        replace h2 := g2.symm.trans h2
        simp [e0] at h0
        simp [e1] at h1
        simp [e2] at h2
        exact ⟨by rw [h0]; exact w0, by rw [h1]; exact w1, by rw [h2]; exact w2⟩
end

theorem Try.ownNone : ownKnob Try.prog.godebug = none := by kernel_rfl
theorem Try.laidOut : laidOutB Try.prog = true := by kernel_rfl

set_option maxRecDepth 100000 in
theorem pileSorts_lifted (os : Os) (started : os.Started) (H : Type) (enc : TypeId × Value → H) :
    ReturnsInHanded {} Try.checked os 5 .any (Rows.pileSortsSpec.pre6 enc Try.prog Try.f5 Rows.pileSortsRow.domain false) (Rows.pileSortsSpec.post enc Try.prog Try.f5 false true false false) := by
  refine returnsInHanded_of_change (C := Try.checked) Try.ownNone started (by kernel_rfl) Try.func5
    (ChangeSpec.witness6 (enc := enc) (C := Try.checked) false ⟨#[], #[.slice none 0 0], []⟩ 8 (by kernel_rfl) (by kernel_rfl) (by kernel_rfl) (by kernel_rfl)) ?_
  intro W base args ds gs before hval0 hW hcnd _
  have hval : ∀ (j : Nat) t v, Try.f5.params[j]? = some t → args[j]? = some v → Value.okWide Try.prog W .any base t v := hval0
  have hW' := hW
  have hlt := fun p hp => hW.lt p hp
  obtain ⟨p, q, hA0, hV, rfl, hfz, hnd⟩ := hW
  have hA : DataW.TrodAll enc Try.prog W 0 (fun _ => true) true Try.f5.params.toList args.toList ds p := hA0
  rw [Try.params5] at hA hval
  obtain ⟨v0, vs0, d0, ds0, p0, q0, hargs, rfl, rfl, h0, r0⟩ := trodAll_cons hA
  obtain ⟨rfl, rfl, rfl⟩ := trodAll_nil r0
  obtain rfl : args = #[v0] := by cases args; simp_all
  obtain ⟨rfl, rfl⟩ := trodVars_none hV
  obtain ⟨A, l, cap, rfl, hI, _, _⟩ := items_in (hval 0 24 v0 rfl rfl) h0
  have hwf := items_wi h0 hI
  clear hA0 hval0
  simp only [List.append_nil] at hW' hlt
  have hrun : Calls Try.prog 5 #[.slice A l.length cap] W fun e w' => e = .returned (.bool true) ∧ Below W.heap.size W w' := by
    by_cases h : 200 < l.length
    · exact sorts_long h
    · exact sorts_any hI hwf (by omega)
  refine hrun.mono fun e W' ⟨he, hg⟩ => ?_
  subst he
  exact ⟨_, rfl, _, _, _, [], _, [], hW', trodAll_cons_mk (shut_bool Try.underlying4 _) trodAll_mk0,
    trodAll_cons_mk (Below.trod Try.laidOut (by kernel_rfl) (of_decide_eq_true (by kernel_rfl)) h0 hg hlt) trodAll_mk0, rfl, hg.frame _, fun h => by cases h⟩

theorem pileSorts_holds : Rows.PileSortsSaid :=
  OpenClaim.holds_of_wide 5 Try.f5 rfl rfl rfl rfl rfl rfl rfl ⟨rfl, rfl, rfl, rfl, rfl⟩ rfl rfl rfl rfl rfl (by kernel_rfl) Try.func5 (by kernel_rfl)
    (of_decide_eq_true (by kernel_rfl)) (by unfold Func.isWrapper; first | (rw [if_pos (by decide +kernel)]; kernel_rfl) | (rw [if_neg (by decide +kernel)]; exact ⟨rfl, rfl⟩))
    (fun os started H enc _ => pileSorts_lifted os started H enc)
#print axioms pileSorts_holds
end Go.Proofs.Ytdhpphkkpjldfab
