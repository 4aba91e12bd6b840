/-
  PROVED HERE: for every list of items, and every list of bools, the law PileMerges answers true: items that are parted into two piles, of which always the one is asked whose first stands ahead, are told as one pile tells them.
  Conditions: none beyond the row's own.
-/
import Derived.Test.YtdhpphkkpjldfabPMe
import Derived.ProofKit
import Derived.Carry
namespace Go.Proofs.Ytdhpphkkpjldfab
set_option maxRecDepth 100000
open Go Go.RowKit Pq
open Go.ChangeShapes Go.WideShapes Go.ChangeAt

theorem Try.ownNone : ownKnob Try.prog.godebug = none := by kernel_rfl
theorem Try.laidOut : laidOutB Try.prog = true := by kernel_rfl

theorem bools_in {H : Type} {enc : TypeId × Value → H} {w : World} {base : Nat} {spare : Nat → Bool} {held : Bool} {v : Value} {d : DataW H} {ps : List MemPlace} {r : Reach} {b0 : Nat} (hv : Value.okWide Try.prog w r b0 54 v) (h : DataW.Trod enc Try.prog w base spare held 54 v d ps) :
    ∃ (A : Option Addr) (m cap : Nat) (q : Nat → Bool), v = .slice A m cap ∧ BoolsAt w A m q ∧ m ≤ maxLen := by
  obtain ⟨a, len, cap, rfl⟩ := okWide_slice Try.underlying54 hv
  obtain ⟨fuel, hf⟩ := h
  have hc : Try.prog.cellsOf 4 = 1 := by kernel_rfl
  rcases Deep.open_slice Try.underlying54 hf with ⟨h0, _⟩ | ⟨a', len', cap', m, n, D, Pl, hcs, hb, hl, hm, hmm, hx, hi⟩
  · have e : (Value.slice a len cap) = .slice none 0 0 := by simpa [Value.cells] using h0
    cases e
    exact ⟨none, 0, 0, fun _ => false, rfl, fun k hk => by omega, by simp [maxLen]⟩
  · have e : (Value.slice a len cap) = .slice (some a') len' cap' := by simpa [Value.cells] using hcs
    cases e
    have hml : len ≤ m := by rw [hmm]; split <;> omega
    have hex : ∀ i, i < len → ∃ q : Bool, a'.block < w.heap.size ∧ w.cell? (a'.add i) = some (.bool q) := by
      intro i hil
      obtain ⟨cs', hcs', ht⟩ := hi i (by omega)
      rw [hc, Nat.mul_one] at hcs'
      obtain ⟨q, rfl, _⟩ := DataW.trod_bool Try.underlying4 ht
      obtain ⟨_, hcl, hat⟩ := World.cells?_some hcs'
      have h0 := hat 0 (by omega)
      have e0 : (a'.add i).add 0 = a'.add i := by simp [Addr.add]
      rw [e0] at h0
      refine ⟨q, ?_, h0⟩
      have := World.block_lt_of_cell? w _ h0
      rwa [add_block] at this
    refine ⟨some a', len, cap, fun i => if h : i < len then (hex i h).choose else false, rfl, fun k hk => ?_, by omega⟩
    have := (hex k hk).choose_spec
    exact ⟨a', rfl, this.1, by simp only [dif_pos hk]; exact this.2⟩

set_option maxRecDepth 100000 in
theorem pileMerges_lifted (os : Os) (started : os.Started) (H : Type) (enc : TypeId × Value → H) :
    ReturnsInHanded {} Try.checked os 8 .any (Rows.pileMergesSpec.pre6 enc Try.prog Try.f8 Rows.pileMergesRow.domain false) (Rows.pileMergesSpec.post enc Try.prog Try.f8 false true false false) := by
  refine returnsInHanded_of_change (C := Try.checked) Try.ownNone started (by kernel_rfl) Try.func8
    (ChangeSpec.witness6 (enc := enc) (C := Try.checked) false ⟨#[], #[.slice none 0 0, .slice none 0 0], []⟩ 8 (by kernel_rfl) (by kernel_rfl) (by kernel_rfl) (by kernel_rfl)) ?_
  intro W base args ds gs before hval0 hW hcnd _
  have hval : ∀ (j : Nat) t v, Try.f8.params[j]? = some t → args[j]? = some v → Value.okWide Try.prog W .any base t v := hval0
  have hW' := hW
  have hlt := fun p hp => hW.lt p hp
  obtain ⟨p, q, hA0, hV, rfl, hfz, hnd⟩ := hW
  have hA : DataW.TrodAll enc Try.prog W 0 (fun _ => true) true Try.f8.params.toList args.toList ds p := hA0
  rw [Try.params8] at hA hval
  obtain ⟨v0, vs0, d0, ds0, p0, q0, hargs, rfl, rfl, h0, r0⟩ := trodAll_cons hA
  obtain ⟨v1, vs1, d1, ds1, p1, q1, rfl, rfl, rfl, h1, r1⟩ := trodAll_cons r0
  obtain ⟨rfl, rfl, rfl⟩ := trodAll_nil r1
  obtain rfl : args = #[v0, v1] := by cases args; simp_all
  obtain ⟨rfl, rfl⟩ := trodVars_none hV
  obtain ⟨A, l, cap, rfl, hI, _, _⟩ := items_in (hval 0 24 v0 rfl rfl) h0
  obtain ⟨A2, m, cap2, qs, rfl, hI2, hm⟩ := bools_in (hval 1 54 v1 rfl rfl) h1
  clear hA0 hval0
  simp only [List.append_nil] at hW' hlt
  have hrun : Calls Try.prog 8 #[.slice A l.length cap, .slice A2 m cap2] W fun e w' => e = .returned (.bool true) ∧ Below W.heap.size W w' := by
    by_cases h : 200 < l.length
    · exact merges_long h
    · exact merges_any hI hI2 (by omega) hm
  refine hrun.mono fun e W' ⟨he, hg⟩ => ?_
  subst he
  exact ⟨_, rfl, _, _, _, [], _, [], hW', trodAll_cons_mk (shut_bool Try.underlying4 _) trodAll_mk0,
    trodAll_cons_mk (Below.trod Try.laidOut (by kernel_rfl) (of_decide_eq_true (by kernel_rfl)) h0 hg (fun x hx => hlt x (by simp [hx]))) (trodAll_cons_mk (Below.trod Try.laidOut (by kernel_rfl) (of_decide_eq_true (by kernel_rfl)) h1 hg (fun x hx => hlt x (by simp [hx]))) trodAll_mk0), rfl, hg.frame _, fun h => by cases h⟩

theorem pileMerges_holds : Rows.PileMergesSaid :=
  OpenClaim.holds_of_wide 8 Try.f8 rfl rfl rfl rfl rfl rfl rfl ⟨rfl, rfl, rfl, rfl, rfl⟩ rfl rfl rfl rfl rfl (by kernel_rfl) Try.func8 (by kernel_rfl)
    (of_decide_eq_true (by kernel_rfl)) (by unfold Func.isWrapper; first | (rw [if_pos (by decide +kernel)]; kernel_rfl) | (rw [if_neg (by decide +kernel)]; exact ⟨rfl, rfl⟩))
    (fun os started H enc _ => pileMerges_lifted os started H enc)
#print axioms pileMerges_holds
end Go.Proofs.Ytdhpphkkpjldfab
