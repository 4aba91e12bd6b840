/-
  PROVED HERE: for every number of nodes, list of edges and two nodes, the law GraphBack answers true: of the graph turned round strong parts and joints are the same and reach turns round, two nodes have one part just if each reaches the other one, and Has turns round.
  Conditions: none beyond the row's own.
-/
import Derived.Test.YtlcadkhhpnaofaaGBk
import Derived.Laws.IdiomArrays
import Derived.ProofKit
import Derived.Carry
namespace Go.Proofs.Ytlcadkhhpnaofaa
set_option maxRecDepth 100000
open Go Go.RowKit Gq
open Go.ChangeShapes Go.WideShapes Go.ChangeAt

/-- In a context of its own. -/
theorem list2 {α : Type} (l : List α) (h : (⟨l⟩ : Array α).size = 2) : ∃ a b, l = [a, b] := by
  match l, h with
  | [a, b], _ => exact ⟨a, b, rfl⟩
theorem u8_bd {n : Int} (h : (Lit.int .u8 n).wf = true) : 0 ≤ n ∧ n ≤ 255 := by
  have h1 : IntKind.u8.min = 0 := rfl
  have h2 : IntKind.u8.max = 255 := rfl
  simp only [Lit.wf, Bool.and_eq_true, decide_eq_true_eq] at h
  omega
theorem Try.ownNone : ownKnob Try.prog.godebug = none := by kernel_rfl
theorem Try.laidOut : laidOutB Try.prog = true := by kernel_rfl

set_option maxRecDepth 100000 in
theorem graphBack_lifted (os : Os) (started : os.Started) (H : Type) (enc : TypeId × Value → H) :
    ReturnsInHanded {} Try.checked os 4 .any (Rows.graphBackSpec.pre6 enc Try.prog Try.f4 Rows.graphBackRow.domain false) (Rows.graphBackSpec.post enc Try.prog Try.f4 false true false false) := by
  refine returnsInHanded_of_change (C := Try.checked) Try.ownNone started (by kernel_rfl) Try.func4
    (ChangeSpec.witness6 (enc := enc) (C := Try.checked) false ⟨#[], #[.int .u8 0, .slice none 0 0, .agg #[.int .u8 0, .int .u8 0]], []⟩ 8 (by kernel_rfl) (by kernel_rfl) (by kernel_rfl) (by kernel_rfl)) ?_
  intro W base args ds gs before hval0 hW hcnd _
  have hval : ∀ (j : Nat) t v, Try.f4.params[j]? = some t → args[j]? = some v → Value.okWide Try.prog W .any base t v := hval0
  have hW' := hW
  have hlt := fun p hp => hW.lt p hp
  obtain ⟨p, q, hA0, hV, rfl, hfz, hnd⟩ := hW
  have hA : DataW.TrodAll enc Try.prog W 0 (fun _ => true) true Try.f4.params.toList args.toList ds p := hA0
  rw [Try.params4] at hA hval
  obtain ⟨v0, vs0, d0, ds0, p0, q0, hargs, rfl, rfl, h0, r0⟩ := trodAll_cons hA
  obtain ⟨v1, vs1, d1, ds1, p1, q1, rfl, rfl, rfl, h1, r1⟩ := trodAll_cons r0
  obtain ⟨v2, vs2, d2, ds2, p2, q2, rfl, rfl, rfl, h2, r2⟩ := trodAll_cons r1
  obtain ⟨rfl, rfl, rfl⟩ := trodAll_nil r2
  obtain rfl : args = #[v0, v1, v2] := by cases args; simp_all
  obtain ⟨rfl, rfl⟩ := trodVars_none hV
  obtain ⟨a0, rfl, rfl, rfl, w0⟩ := open_int Try.underlying5 (hval 0 5 v0 rfl rfl) h0
  obtain ⟨A, l, cap, rfl, hI, hl⟩ := edges_in (hval 1 22 v1 rfl rfl) h1
  obtain ⟨cs, rfl, hsz, _⟩ : ∃ cs, v2 = .agg cs ∧ cs.size = Try.prog.cellsOf 41 ∧ Row.okWide Try.prog W .any base 41 cs := by
    have := hval 2 41 v2 rfl rfl
    simpa [Value.okWide, Try.underlying41] using this
  have cellsA : Try.prog.cellsOf 41 = 2 := by kernel_rfl
  have cellsE : Try.prog.cellsOf 5 = 1 := by kernel_rfl
  rw [cellsA] at hsz
  obtain ⟨ll⟩ := cs
  obtain ⟨k0, k1, rfl⟩ := list2 ll hsz
  obtain ⟨fuel, hf⟩ := h2
  obtain ⟨xs, mm, _, hx, _, hxl, hel⟩ := DataW.trod_array Try.underlying41 hf
  obtain ⟨y0, y1, rfl⟩ := list2 xs hxl
  have hy0 : DataW.trod enc Try.prog W 0 (fun _ => true) true mm 5 [k0] = some y0 := by have := hel 0 (by omega); rw [cellsE] at this; exact this
  have hy1 : DataW.trod enc Try.prog W 0 (fun _ => true) true mm 5 [k1] = some y1 := by have := hel 1 (by omega); rw [cellsE] at this; exact this
  obtain ⟨x0, e0, rfl, u0⟩ := DataW.trod_int Try.underlying5 hy0
  obtain ⟨x1, e1, rfl, u1⟩ := DataW.trod_int Try.underlying5 hy1
  simp at e0 e1
  subst e0 e1
  simp only [Prod.mk.injEq, List.map_cons, List.map_nil, List.flatMap_cons, List.flatMap_nil, List.append_nil] at hx
  obtain ⟨rfl, rfl⟩ := hx
  have rdA : ∀ (W' : World) (sp : Nat → Bool), DataW.Trod enc Try.prog W' 0 sp true 41 (.agg #[.int .u8 x0, .int .u8 x1]) (DataW.agg [.lit (.int .u8 x0), .lit (.int .u8 x1)]) [] := fun W' sp => ⟨2, by simp [DataW.trod, Value.cells, Try.underlying41, Try.underlying5, cellsA, cellsE, u0, u1, show List.range 2 = [0, 1] from rfl]⟩
  clear hA0 hval0
  simp only [List.append_nil, List.nil_append] at hW' hlt
  obtain ⟨b1, c1⟩ := u8_bd w0
  obtain ⟨b2, c2⟩ := u8_bd u0
  obtain ⟨b3, c3⟩ := u8_bd u1
  obtain ⟨n1, rfl⟩ := Int.eq_ofNat_of_zero_le b1
  obtain ⟨n2, rfl⟩ := Int.eq_ofNat_of_zero_le b2
  obtain ⟨n3, rfl⟩ := Int.eq_ofNat_of_zero_le b3
  have hrun : Calls Try.prog 4 #[.int .u8 (n1 : Int), .slice A l.length cap, .agg #[.int .u8 (n2 : Int), .int .u8 (n3 : Int)]] W fun e w' => e = .returned (.bool true) ∧ Below W.heap.size W w' :=
    backs_any hI hl (by omega) (by omega) (by omega)
  refine hrun.mono fun e W' ⟨he, hg⟩ => ?_
  subst he
  exact ⟨_, rfl, _, _, _, [], _, [], hW', trodAll_cons_mk (shut_bool Try.underlying4 _) trodAll_mk0,
    trodAll_cons_mk (shut_int Try.underlying5 w0) (trodAll_cons_mk (Below.trod Try.laidOut (by kernel_rfl) (of_decide_eq_true (by kernel_rfl)) h1 hg hlt) (trodAll_cons_mk (rdA _ _) trodAll_mk0)), rfl, hg.frame _, fun h => by cases h⟩

theorem graphBack_holds : Rows.GraphBackSaid :=
  OpenClaim.holds_of_wide 4 Try.f4 rfl rfl rfl rfl rfl rfl rfl ⟨rfl, rfl, rfl, rfl, rfl⟩ rfl rfl rfl rfl rfl (by kernel_rfl) Try.func4 (by kernel_rfl)
    (of_decide_eq_true (by kernel_rfl)) (by unfold Func.isWrapper; first | (rw [if_pos (by decide +kernel)]; kernel_rfl) | (rw [if_neg (by decide +kernel)]; exact ⟨rfl, rfl⟩))
    (fun os started H enc _ => graphBack_lifted os started H enc)
#print axioms graphBack_holds
end Go.Proofs.Ytlcadkhhpnaofaa
