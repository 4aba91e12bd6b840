/- Joined texts: LnL, LnProof. -/
import Derived.Test.YtfgajjfcjlejmaaDoorLm5
import Derived.Test.YtfgajjfcjlejmaaDoorLn1
import Derived.Test.YtfgajjfcjlejmaaDoorCards
import Derived.Test.YtfgajjfcjlejmaaDoorTie
import Derived.ProofKit
import Derived.LaidMore
import Derived.OpenShut
import Derived.Stop.Joined
import Derived.ShutString
import Derived.SevenTiedAt
import Derived.Carry

/-
  What the row's condition on the listed variables gives: wire's two tables and the table of bits lie in memory.
-/
namespace Go.Proofs.YtfgajjfcjlejmaaDoor
set_option maxRecDepth 100000
set_option linter.unusedSimpArgs false
open Go.ChangeShapes Go.WideShapes Go.ChangeAt Go.RowKit

abbrev laid1 : List (String × DataW Unit) := Rows.linkNamesRow.laid
def rulesName : String := Rows.linkNamesRow.named.headD ""
def bitsName : String := (Rows.linkNamesRow.named.drop 2).headD ""
def kindsName : String := (Rows.linkNamesRow.named.drop 1).headD ""
theorem gRules : Tryd.prog.globalNamed rulesName = some 0 := by kernel_rfl
theorem tRules : (Tryd.prog.globals[0]?).map (·.type) = some 133 := by kernel_rfl
theorem gKinds : Tryd.prog.globalNamed kindsName = some 1 := by kernel_rfl
theorem gBits : Tryd.prog.globalNamed bitsName = some 2 := by kernel_rfl
theorem tBits : (Tryd.prog.globals[2]?).map (·.type) = some 162 := by kernel_rfl
theorem tKinds : (Tryd.prog.globals[1]?).map (·.type) = some 153 := by kernel_rfl

section
variable {H : Type} {enc : TypeId × Value → H} {w : World} {base : Nat} {spare : Nat → Bool} {held : Bool} {m : Nat}
theorem i64_of {cs : List Value} {x : DataW H × List MemPlace} (h : DataW.trod enc Tryd.prog w base spare held m 3 cs = some x) : ∃ a : Int, cs = [.int .i64 a] ∧ x.1 = .lit (.int .i64 a) := by
  obtain ⟨a, e0, f0, _⟩ := DataW.trod_int Tryd.underlying3 h
  exact ⟨a, e0, by rw [f0]⟩
theorem i64b_of {cs : List Value} {x : DataW H × List MemPlace} (h : DataW.trod enc Tryd.prog w base spare held m 2 cs = some x) : ∃ a : Int, cs = [.int .i64 a] ∧ x.1 = .lit (.int .i64 a) := by
  obtain ⟨a, e0, f0, _⟩ := DataW.trod_int Tryd.underlying2 h
  exact ⟨a, e0, by rw [f0]⟩
theorem fld_of {cs : List Value} {x : DataW H × List MemPlace} (h : DataW.trod enc Tryd.prog w base spare held m 130 cs = some x) : ∃ a : Int, cs = [.int .i64 a] ∧ x.1 = .lit (.int .i64 a) := by
  obtain ⟨a, e0, f0, _⟩ := DataW.trod_int Tryd.underlying130 h
  exact ⟨a, e0, by rw [f0]⟩
theorem rule_of {cs : List Value} {x : DataW H × List MemPlace} (h : DataW.trod enc Tryd.prog w base spare held m 132 cs = some x) :
    ∃ a b c : Int, cs = [.int .i64 a, .int .i64 b, .int .i64 c] ∧ x.1 = .agg [.lit (.int .i64 a), .lit (.int .i64 b), .lit (.int .i64 c)] := by
  obtain ⟨xs, n, _, rfl, hlen, hl, hf⟩ := DataW.trod_struct Tryd.underlying132 h
  have hc : Tryd.prog.cellsOf 132 = 3 := by kernel_rfl
  rw [hc] at hlen
  match cs, hlen with
  | [c0, c1, c2], _ =>
    match xs, hl with
    | [y0, y1, y2], _ =>
      have q1 : Tryd.prog.cellsOf 3 = 1 := by kernel_rfl
      have q2 : Tryd.prog.cellsOf 2 = 1 := by kernel_rfl
      obtain ⟨a, e0, f0⟩ := i64_of (x := y0) (hf 0 _ rfl)
      obtain ⟨b, e1, f1⟩ := i64b_of (x := y1) (hf 1 _ rfl)
      obtain ⟨c, e2, f2⟩ := i64b_of (x := y2) (hf 2 _ rfl)
      simp [q1, q2] at e0 e1 e2
      exact ⟨a, b, c, by rw [e0, e1, e2], by simp [f0, f1, f2]⟩
theorem five_of {cs : List Value} {x : DataW H × List MemPlace} (h : DataW.trod enc Tryd.prog w base spare held m 150 cs = some x) :
    ∃ a b c d e : Int, cs = [.int .i64 a, .int .i64 b, .int .i64 c, .int .i64 d, .int .i64 e] ∧ x.1 = .agg [.lit (.int .i64 a), .lit (.int .i64 b), .lit (.int .i64 c), .lit (.int .i64 d), .lit (.int .i64 e)] := by
  obtain ⟨xs, n, _, rfl, hlen, hl, hf⟩ := DataW.trod_array Tryd.underlying150 h
  have hc : Tryd.prog.cellsOf 150 = 5 := by kernel_rfl
  rw [hc] at hlen
  match cs, hlen with
  | [c0, c1, c2, c3, c4], _ =>
    match xs, hl with
    | [y0, y1, y2, y3, y4], _ =>
      have q1 : Tryd.prog.cellsOf 130 = 1 := by kernel_rfl
      obtain ⟨a, e0, f0⟩ := fld_of (x := y0) (hf 0 (by omega))
      obtain ⟨b, e1, f1⟩ := fld_of (x := y1) (hf 1 (by omega))
      obtain ⟨c, e2, f2⟩ := fld_of (x := y2) (hf 2 (by omega))
      obtain ⟨d, e3, f3⟩ := fld_of (x := y3) (hf 3 (by omega))
      obtain ⟨e, e4, f4⟩ := fld_of (x := y4) (hf 4 (by omega))
      simp [q1] at e0 e1 e2 e3 e4
      exact ⟨a, b, c, d, e, by rw [e0, e1, e2, e3, e4], by simp [f0, f1, f2, f3, f4]⟩
theorem naming_of {cs : List Value} {x : DataW H × List MemPlace} (h : DataW.trod enc Tryd.prog w base spare held m 152 cs = some x) :
    ∃ (s : ByteArray) (a b c d e : Int), cs = [.string s, .int .i64 a, .int .i64 b, .int .i64 c, .int .i64 d, .int .i64 e] ∧ x.1 = .agg [.lit (.string s.data.toList), .agg [.lit (.int .i64 a), .lit (.int .i64 b), .lit (.int .i64 c), .lit (.int .i64 d), .lit (.int .i64 e)]] := by
  obtain ⟨xs, n, _, rfl, hlen, hl, hf⟩ := DataW.trod_struct Tryd.underlying152 h
  have hc : Tryd.prog.cellsOf 152 = 6 := by kernel_rfl
  rw [hc] at hlen
  match cs, hlen with
  | [c0, c1, c2, c3, c4, c5], _ =>
    match xs, hl with
    | [y0, y1], _ =>
      have q1 : Tryd.prog.cellsOf 9 = 1 := by kernel_rfl
      have q5 : Tryd.prog.cellsOf 150 = 5 := by kernel_rfl
      obtain ⟨s, e0, f0, _⟩ := DataW.trod_string (x := y0) Tryd.underlying9 (hf 0 _ rfl)
      obtain ⟨a, b, c, d, e, e1, f1⟩ := five_of (x := y1) (hf 1 _ rfl)
      simp [q1] at e0
      simp [q5] at e1
      obtain ⟨rfl, rfl, rfl, rfl, rfl⟩ := e1
      exact ⟨s, a, b, c, d, e, by rw [e0], by simp [f0, f1]⟩
end
theorem take_at' {l r : List Value} {a n i : Nat} (h : (l.drop a).take n = r) (hi : i < n) : l[a + i]? = r[i]? := by
  rw [← h, List.getElem?_take, if_pos hi, List.getElem?_drop]

theorem of_laidT {W : World} (h : laidMetH Tryd.prog laid1 W) : Tab W := by
  rw [MakeChecks.laidMetH_plain _ _ _ (by kernel_rfl)] at h
  obtain ⟨ps, ⟨_, _, _, _, _, _, _, _, _, _, ⟨g0, t0, cs0, f0, p0, q0, hg0, ht0, hv0, hd0, ⟨g1, t1, cs1, f1, p1, q1, hg1, ht1, hv1, hd1, _⟩, _⟩, _⟩, _, _⟩ := h
  obtain rfl := Option.some.inj (gRules.symm.trans hg0)
  obtain rfl := Option.some.inj (tRules.symm.trans ht0)
  obtain rfl := Option.some.inj (gKinds.symm.trans hg1)
  obtain rfl := Option.some.inj (tKinds.symm.trans ht1)
  obtain ⟨xs, m1, rfl, hx1, _, hn, hel⟩ := DataW.trod_array Tryd.underlying133 hd0
  obtain ⟨ys, m2, rfl, hy1, _, hny, hely⟩ := DataW.trod_array Tryd.underlying153 hd1
  have c3 : Tryd.prog.cellsOf 132 = 3 := by kernel_rfl
  have c6 : Tryd.prog.cellsOf 152 = 6 := by kernel_rfl
  rw [c3] at hel
  rw [c6] at hely
  have hx := (congrArg Prod.fst hx1).symm
  have hy := (congrArg Prod.fst hy1).symm
  obtain ⟨l0⟩ := cs0
  obtain ⟨l1⟩ := cs1
  have hcell0 := World.var?_cell hg0 hv0
  have hcell1 := World.var?_cell hg1 hv1
  simp only at hel hely
  have hr : ∀ f, f < 9 → (l0.drop (f * 3)).take 3 = [.int .i64 (Wr.wid f : Nat), .int .i64 (Wr.lo f), .int .i64 (Wr.hi f)] := by
    intro f hf
    have hlt : f < xs.length := by omega
    have h1 := hel f hf
    rw [List.getElem?_eq_getElem hlt] at h1
    obtain ⟨a, b, c, e, hd⟩ := rule_of h1
    rw [e]
    have h2 : (xs.map (·.1))[f]? = some (xs[f]).1 := by simp [hlt]
    simp only [Rows.laid_wagonway_wire_rules, DataW.agg.injEq] at hx
    rw [hx, hd] at h2
    have cases_ : f = 0 ∨ f = 1 ∨ f = 2 ∨ f = 3 ∨ f = 4 ∨ f = 5 ∨ f = 6 ∨ f = 7 ∨ f = 8 := by omega
    rcases cases_ with rfl | rfl | rfl | rfl | rfl | rfl | rfl | rfl | rfl <;>
    · simp at h2
      obtain ⟨rfl, rfl, rfl⟩ := h2
      rfl
  have hk : ∀ f, f < 12 → (l1.drop (f * 6)).take 6 = [word f, .int .i64 (fldA f 0 : Nat), .int .i64 (fldA f 1 : Nat), .int .i64 (fldA f 2 : Nat), .int .i64 (fldA f 3 : Nat), .int .i64 (fldA f 4 : Nat)] := by
    intro f hf
    have hlt : f < ys.length := by omega
    have h1 := hely f hf
    rw [List.getElem?_eq_getElem hlt] at h1
    obtain ⟨s, a, b, c, d, e, eq, hd⟩ := naming_of h1
    rw [eq]
    have h2 : (ys.map (·.1))[f]? = some (ys[f]).1 := by simp [hlt]
    simp only [Rows.laid_wagonway_wire_kinds, DataW.agg.injEq] at hy
    rw [hy, hd] at h2
    have cases_ : f = 0 ∨ f = 1 ∨ f = 2 ∨ f = 3 ∨ f = 4 ∨ f = 5 ∨ f = 6 ∨ f = 7 ∨ f = 8 ∨ f = 9 ∨ f = 10 ∨ f = 11 := by omega
    obtain ⟨⟨s⟩⟩ := s
    rcases cases_ with rfl | rfl | rfl | rfl | rfl | rfl | rfl | rfl | rfl | rfl | rfl | rfl <;>
    · simp at h2
      obtain ⟨rfl, rfl, rfl, rfl, rfl, rfl⟩ := h2
      rfl
  refine ⟨fun f hf => ?_, fun f hf => ?_, fun f hf => ?_, fun k hk' => ?_, fun k hk' j hj => ?_⟩
  · rw [hcell0]
    have := take_at' (hr f hf) (i := 0) (by omega)
    simpa using this
  · rw [hcell0]
    have := take_at' (hr f hf) (i := 1) (by omega)
    simpa using this
  · rw [hcell0]
    have := take_at' (hr f hf) (i := 2) (by omega)
    simpa using this
  · rw [hcell1]
    have := take_at' (hk k hk') (i := 0) (by omega)
    simpa using this
  · rw [hcell1]
    have := take_at' (hk k hk') (i := 1 + j) (by omega)
    rw [← Nat.add_assoc] at this
    have e : ([word k, .int .i64 (fldA k 0 : Nat), .int .i64 (fldA k 1 : Nat), .int .i64 (fldA k 2 : Nat), .int .i64 (fldA k 3 : Nat), .int .i64 (fldA k 4 : Nat)] : List Value)[1 + j]? = some (.int .i64 (fldA k j : Nat)) := by
      have : j = 0 ∨ j = 1 ∨ j = 2 ∨ j = 3 ∨ j = 4 := by omega
      rcases this with rfl | rfl | rfl | rfl | rfl <;> rfl
    rw [e] at this
    simpa using this
theorem of_laidZ {W : World} (h : laidMetH Tryd.prog laid1 W) : TabZ W := by
  rw [MakeChecks.laidMetH_plain _ _ _ (by kernel_rfl)] at h
  obtain ⟨ps, ⟨g0, t0, cs0, f0, p0, q0, hg0, ht0, hv0, hd0, _⟩, _, _⟩ := h
  obtain rfl := Option.some.inj (gBits.symm.trans hg0)
  obtain rfl := Option.some.inj (tBits.symm.trans ht0)
  obtain ⟨xs, m1, rfl, hx1, _, hn, hel⟩ := DataW.trod_array Tryd.underlying162 hd0
  have c1 : Tryd.prog.cellsOf 5 = 1 := by kernel_rfl
  rw [c1] at hel
  have hx := (congrArg Prod.fst hx1).symm
  obtain ⟨l0⟩ := cs0
  have hcell0 := World.var?_cell hg0 hv0
  simp only at hel
  have hx2 : xs.map (·.1) = Go.Lib.deBruijn64tab.map (fun n => (.lit (.int .u8 (n : Nat)) : DataW Unit)) := by
    simp only [Rows.laid_math_bits_deBruijn64tab, DataW.agg.injEq] at hx
    rw [hx]; rfl
  intro j hj
  have hlen : xs.length = 64 := by
    have := congrArg List.length hx2
    rw [List.length_map, List.length_map] at this
    exact this
  have h1 := hel j hj
  rw [List.getElem?_eq_getElem (by omega)] at h1
  obtain ⟨a, e0, f0, _⟩ := DataW.trod_int Tryd.underlying5 h1
  have h2 : (xs.map (·.1))[j]? = some (xs[j]).1 := by rw [List.getElem?_map, List.getElem?_eq_getElem (by omega)]; rfl
  rw [hx2, f0] at h2
  have hd : j < Go.Lib.deBruijn64tab.length := hj
  rw [List.getElem?_map, List.getElem?_eq_getElem hd] at h2
  have h3 : ((Go.Lib.deBruijn64tab[j] : Nat) : Int) = a := by simpa using h2
  rw [hcell0]
  have h4 : l0[j]? = some (.int .u8 a) := by
    have e1 : ((l0.drop (j * 1)).take 1)[0]? = some (.int .u8 a) := by rw [e0]; rfl
    rw [List.getElem?_take, if_pos (by omega), List.getElem?_drop] at e1
    simpa using e1
  have h5 : Go.Lib.deBruijn64tab.getD j 0 = Go.Lib.deBruijn64tab[j] := by rw [List.getD_eq_getElem?_getD, List.getElem?_eq_getElem hd]; rfl
  rw [h5, h3]
  simpa using h4

theorem of_laid {W : World} (h : laidMetH Tryd.prog laid1 W) : Lay W := ⟨of_laidT h, of_laidZ h⟩
end Go.Proofs.YtfgajjfcjlejmaaDoor

/-
  PROVED HERE: the chapter's examples, what is refused, and calls on none (the statement LinkNames, a closed law)
  Conditions: the package-level variables math/bits.deBruijn64tab and wagonway/wire.rules and wagonway/wire.kinds hold what the program's own text lays there when the call begins (the card ties that to the text); none beyond the row's own.
-/
namespace Go.Proofs.YtfgajjfcjlejmaaDoor
set_option maxRecDepth 100000
set_option linter.unusedSimpArgs false
open Go.ChangeShapes Go.WideShapes Go.ChangeAt Go.RowKit
open Go.ChangeMaps (open_string shut_string)

theorem Tryd.laidOut : laidOutB Tryd.prog = true := by kernel_rfl
theorem Tryd.ownNone : ownKnob Tryd.prog.godebug = none := by kernel_rfl

/-- The door's own heap meets the condition: three closed facts. -/
theorem door_met (os : Os) (args : Array Value) : laidMetH Tryd.prog laid1 ((World.doorLaid Tryd.prog 400 os).forCall (fun _ _ => 0) ⟨#[], args, []⟩).memory :=
  laidMetH_of_parts3 (fuel := 8) (laidMet_of_run' 8 (by kernel_rfl) (by kernel_rfl)) (by kernel_rfl) (by kernel_rfl)

theorem linkNames_lifted (os : Os) (started : os.Started) (H : Type) (enc : TypeId × Value → H) :
    ReturnsInHanded {} Tryd.checked os 4 .any (fun w args => (Rows.linkNamesSpec.pre enc Tryd.prog Tryd.f4 [] false w args ∧ laidMetH Tryd.prog laid1 w) ∧ sizedMet enc Tryd.prog Tryd.f4 (OpenSpec.ofChange Rows.linkNamesSpec) false w args)
      (Rows.linkNamesSpec.post enc Tryd.prog Tryd.f4 false true false false) := by
  refine returnsInHanded_of_change_and (C := Tryd.checked) (X := fun w _ => laidMetH Tryd.prog laid1 w) (fun _ _ _ hh h => h.of_heap hh) Tryd.ownNone started (by kernel_rfl) Tryd.func4
    (ChangeSpec.witness_shaped (enc := enc) (C := Tryd.checked) (os := os) (X := fun w _ => laidMetH Tryd.prog laid1 w) false (World.doorLaid Tryd.prog 400 os) #[] 8 rfl (World.shaped_of_RefB (by kernel_rfl) (by kernel_rfl)) (by kernel_rfl) (by kernel_rfl) (by kernel_rfl) (door_met os _)) ?_
  intro W base args ds gs before hval0 hW _ _ hL _
  have hval : ∀ (j : Nat) t v, Tryd.f4.params[j]? = some t → args[j]? = some v → Value.okWide Tryd.prog W .any base t v := hval0
  have hW' := hW
  have hlt := fun p hp => hW.lt p hp
  obtain ⟨p, q, hA0, hV, rfl, hfz, hnd⟩ := hW
  have hA : DataW.TrodAll enc Tryd.prog W 0 (fun _ => true) true Tryd.f4.params.toList args.toList ds p := hA0
  rw [Tryd.params4] at hA hval
  obtain ⟨hargs, rfl, rfl⟩ := trodAll_nil hA
  obtain rfl : args = #[] := by cases args; simp_all
  obtain ⟨rfl, rfl⟩ := trodVars_none hV
  clear hA0 hval0
  refine (lnames_any (of_laid hL)).mono fun e W' ⟨he, hg⟩ => ?_
  subst he
  exact ⟨_, rfl, _, _, _, [], _, [], hW', trodAll_cons_mk (shut_bool Tryd.underlying4 _) trodAll_mk0, trodAll_mk0, rfl, hg.frame _, fun h => by cases h⟩

theorem linkNames_holds : Rows.LinkNamesSaid :=
  OpenClaim.holds_of_wide 4 Tryd.f4 rfl rfl rfl rfl rfl rfl rfl ⟨rfl, rfl, rfl, rfl, rfl⟩ rfl rfl rfl rfl rfl (by kernel_rfl) Tryd.func4 (by kernel_rfl)
    (of_decide_eq_true (by kernel_rfl)) (by unfold Func.isWrapper; first | (rw [if_pos (by decide +kernel)]; kernel_rfl) | (rw [if_neg (by decide +kernel)]; exact ⟨rfl, rfl⟩))
    (fun os started H enc _ => linkNames_lifted os started H enc)

theorem linkNames_card_holds : Rows.LinkNamesCardSaid :=
  Claim7.holds_tied_plain_at .later [] [.data, .data, .data] true Rows.linkNamesCard.stood.harness false
    linkNames_holds (fun _ h => by cases h) (by kernel_rfl) (fun _ h => by cases h) linkNames_row_tie rfl ⟨rfl, rfl⟩ (by kernel_rfl) rfl
    (fun f fn hf hfn => by
      obtain rfl : f = 4 := Option.some.inj ((show Tryd.prog.funcNamed Rows.linkNamesRow.func = some 4 by kernel_rfl).symm.trans hf) |>.symm
      obtain rfl : fn = Tryd.f4 := (Option.some.inj (Tryd.func4.symm.trans hfn)).symm
      exact ⟨by kernel_rfl, fun j t ht => by
        rw [Tryd.params4] at ht
        simp at ht⟩)
    (by kernel_rfl)
#print axioms linkNames_card_holds
end Go.Proofs.YtfgajjfcjlejmaaDoor
