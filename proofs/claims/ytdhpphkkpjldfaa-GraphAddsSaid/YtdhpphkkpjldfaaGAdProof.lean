/-
  PROVED HERE: for every number of nodes, list of edges and three numbers, the law GraphAdds answers true: an edge more makes no node farther, Add tells OK just if its two nodes differ, and a graph turned round twice has the rows that it had.
  Conditions: none beyond the row's own.
-/
import Derived.Test.YtdhpphkkpjldfaaGAd
import Derived.Laws.IdiomArrays
import Derived.ProofKit
import Derived.Carry
namespace Go.Proofs.Ytdhpphkkpjldfaa
set_option maxRecDepth 100000
open Go Go.RowKit Gq
open Go.ChangeShapes Go.WideShapes Go.ChangeAt

/-- In a context of its own. -/
theorem list3 {α : Type} (l : List α) (h : (⟨l⟩ : Array α).size = 3) : ∃ a b c, l = [a, b, c] := by
  match l, h with
  | [a, b, c], _ => exact ⟨a, b, c, rfl⟩
theorem u8_bd {n : Int} (h : (Lit.int .u8 n).wf = true) : 0 ≤ n ∧ n ≤ 255 := by
  have h1 : IntKind.u8.min = 0 := rfl
  have h2 : IntKind.u8.max = 255 := rfl
  simp only [Lit.wf, Bool.and_eq_true, decide_eq_true_eq] at h
  omega
theorem Try.ownNone : ownKnob Try.prog.godebug = none := by kernel_rfl
theorem Try.laidOut : laidOutB Try.prog = true := by kernel_rfl

set_option maxRecDepth 100000 in
theorem graphAdds_lifted (os : Os) (started : os.Started) (H : Type) (enc : TypeId × Value → H) :
    ReturnsInHanded {} Try.checked os 7 .any (Rows.graphAddsSpec.pre6 enc Try.prog Try.f7 Rows.graphAddsRow.domain false) (Rows.graphAddsSpec.post enc Try.prog Try.f7 false true false false) := by
  refine returnsInHanded_of_change (C := Try.checked) Try.ownNone started (by kernel_rfl) Try.func7
    (ChangeSpec.witness6 (enc := enc) (C := Try.checked) false ⟨#[], #[.int .u8 0, .slice none 0 0, .agg #[.int .u8 0, .int .u8 0, .int .u8 0]], []⟩ 8 (by kernel_rfl) (by kernel_rfl) (by kernel_rfl) (by kernel_rfl)) ?_
  intro W base args ds gs before hval0 hW hcnd _
  have hval : ∀ (j : Nat) t v, Try.f7.params[j]? = some t → args[j]? = some v → Value.okWide Try.prog W .any base t v := hval0
  have hW' := hW
  have hlt := fun p hp => hW.lt p hp
  obtain ⟨p, q, hA0, hV, rfl, hfz, hnd⟩ := hW
  have hA : DataW.TrodAll enc Try.prog W 0 (fun _ => true) true Try.f7.params.toList args.toList ds p := hA0
  rw [Try.params7] at hA hval
  obtain ⟨v0, vs0, d0, ds0, p0, q0, hargs, rfl, rfl, h0, r0⟩ := trodAll_cons hA
  obtain ⟨v1, vs1, d1, ds1, p1, q1, rfl, rfl, rfl, h1, r1⟩ := trodAll_cons r0
  obtain ⟨v2, vs2, d2, ds2, p2, q2, rfl, rfl, rfl, h2, r2⟩ := trodAll_cons r1
  obtain ⟨rfl, rfl, rfl⟩ := trodAll_nil r2
  obtain rfl : args = #[v0, v1, v2] := by cases args; simp_all
  obtain ⟨rfl, rfl⟩ := trodVars_none hV
  obtain ⟨a0, rfl, rfl, rfl, w0⟩ := open_int Try.underlying5 (hval 0 5 v0 rfl rfl) h0
  obtain ⟨A, l, cap, rfl, hI, hl⟩ := edges_in (hval 1 22 v1 rfl rfl) h1
  obtain ⟨cs, rfl, hsz, _⟩ : ∃ cs, v2 = .agg cs ∧ cs.size = Try.prog.cellsOf 50 ∧ Row.okWide Try.prog W .any base 50 cs := by
    have := hval 2 50 v2 rfl rfl
    simpa [Value.okWide, Try.underlying50] using this
  have cellsA : Try.prog.cellsOf 50 = 3 := by kernel_rfl
  have cellsE : Try.prog.cellsOf 5 = 1 := by kernel_rfl
  rw [cellsA] at hsz
  obtain ⟨ll⟩ := cs
  obtain ⟨k0, k1, k2, rfl⟩ := list3 ll hsz
  have h2' := h2
  obtain ⟨fuel, hf⟩ := h2
  obtain ⟨y0, y1, y2, mm, hx, hy0, hy1, hy2⟩ := trod_array3 Try.underlying50 cellsE hf
  obtain ⟨x0, e0, rfl, u0⟩ := DataW.trod_int Try.underlying5 hy0
  obtain ⟨x1, e1, rfl, u1⟩ := DataW.trod_int Try.underlying5 hy1
  obtain ⟨x2, e2, rfl, u2⟩ := DataW.trod_int Try.underlying5 hy2
  simp at e0 e1 e2
  subst e0 e1 e2
  simp only [Prod.mk.injEq] at hx
  obtain ⟨rfl, rfl⟩ := hx
  have rdA : ∀ (W' : World) (sp : Nat → Bool), DataW.Trod enc Try.prog W' 0 sp true 50 (.agg #[.int .u8 x0, .int .u8 x1, .int .u8 x2]) (DataW.agg [.lit (.int .u8 x0), .lit (.int .u8 x1), .lit (.int .u8 x2)]) [] := fun W' sp => ⟨2, by simp [DataW.trod, Value.cells, Try.underlying50, Try.underlying5, cellsA, cellsE, u0, u1, u2, show List.range 3 = [0, 1, 2] from rfl]⟩
  clear hA0 hval0
  simp only [List.append_nil, List.nil_append] at hW' hlt
  obtain ⟨b1, c1⟩ := u8_bd w0
  obtain ⟨b2, c2⟩ := u8_bd u0
  obtain ⟨b3, c3⟩ := u8_bd u1
  obtain ⟨b4, c4⟩ := u8_bd u2
  obtain ⟨n1, rfl⟩ := Int.eq_ofNat_of_zero_le b1
  obtain ⟨n2, rfl⟩ := Int.eq_ofNat_of_zero_le b2
  obtain ⟨n3, rfl⟩ := Int.eq_ofNat_of_zero_le b3
  obtain ⟨n4, rfl⟩ := Int.eq_ofNat_of_zero_le b4
  have hrun : Calls Try.prog 7 #[.int .u8 (n1 : Int), .slice A l.length cap, .agg #[.int .u8 (n2 : Int), .int .u8 (n3 : Int), .int .u8 (n4 : Int)]] W fun e w' => e = .returned (.bool true) ∧ Below W.heap.size W w' :=
    adds_any hI hl (by omega) (by omega) (by omega) (by omega)
  refine hrun.mono fun e W' ⟨he, hg⟩ => ?_
  subst he
  exact ⟨_, rfl, _, _, _, [], _, [], hW', trodAll_cons_mk (shut_bool Try.underlying4 _) trodAll_mk0,
    trodAll_cons_mk (shut_int Try.underlying5 w0) (trodAll_cons_mk (Below.trod Try.laidOut (by kernel_rfl) (of_decide_eq_true (by kernel_rfl)) h1 hg hlt) (trodAll_cons_mk (rdA _ _) trodAll_mk0)), rfl, hg.frame _, fun h => by cases h⟩

theorem graphAdds_holds : Rows.GraphAddsSaid :=
  OpenClaim.holds_of_wide 7 Try.f7 rfl rfl rfl rfl rfl rfl rfl ⟨rfl, rfl, rfl, rfl, rfl⟩ rfl rfl rfl rfl rfl (by kernel_rfl) Try.func7 (by kernel_rfl)
    (of_decide_eq_true (by kernel_rfl)) (by unfold Func.isWrapper; first | (rw [if_pos (by decide +kernel)]; kernel_rfl) | (rw [if_neg (by decide +kernel)]; exact ⟨rfl, rfl⟩))
    (fun os started H enc _ => graphAdds_lifted os started H enc)
#print axioms graphAdds_holds
end Go.Proofs.Ytdhpphkkpjldfaa
