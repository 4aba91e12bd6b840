/-
  What the row's condition on the listed variables gives: wire's two tables lie in memory.
-/
import Derived.Test.YtmfbokaaoffdnaaDoorWr1
import Derived.ProofKit
import Derived.LaidMore
import Derived.OpenShut
import Derived.Stop.Joined
namespace Go.Proofs.YtmfbokaaoffdnaaDoor
set_option maxRecDepth 100000
set_option linter.unusedSimpArgs false
open Go.ChangeShapes Go.WideShapes Go.ChangeAt Go.RowKit

abbrev laid1 : List (String × DataW Unit) := Rows.wireReadsRow.laid
def rulesName : String := Rows.wireReadsRow.named.headD ""
def kindsName : String := (Rows.wireReadsRow.named.drop 1).headD ""
theorem gRules : Tryd.prog.globalNamed rulesName = some 0 := by kernel_rfl
theorem tRules : (Tryd.prog.globals[0]?).map (·.type) = some 61 := by kernel_rfl
theorem gKinds : Tryd.prog.globalNamed kindsName = some 1 := by kernel_rfl
theorem tKinds : (Tryd.prog.globals[1]?).map (·.type) = some 74 := by kernel_rfl

section
variable {H : Type} {enc : TypeId × Value → H} {w : World} {base : Nat} {spare : Nat → Bool} {held : Bool} {m : Nat}
theorem i64_of {cs : List Value} {x : DataW H × List MemPlace} (h : DataW.trod enc Tryd.prog w base spare held m 3 cs = some x) : ∃ a : Int, cs = [.int .i64 a] ∧ x.1 = .lit (.int .i64 a) := by
  obtain ⟨a, e0, f0, _⟩ := DataW.trod_int Tryd.underlying3 h
  exact ⟨a, e0, by rw [f0]⟩
theorem i64b_of {cs : List Value} {x : DataW H × List MemPlace} (h : DataW.trod enc Tryd.prog w base spare held m 2 cs = some x) : ∃ a : Int, cs = [.int .i64 a] ∧ x.1 = .lit (.int .i64 a) := by
  obtain ⟨a, e0, f0, _⟩ := DataW.trod_int Tryd.underlying2 h
  exact ⟨a, e0, by rw [f0]⟩
theorem fld_of {cs : List Value} {x : DataW H × List MemPlace} (h : DataW.trod enc Tryd.prog w base spare held m 58 cs = some x) : ∃ a : Int, cs = [.int .i64 a] ∧ x.1 = .lit (.int .i64 a) := by
  obtain ⟨a, e0, f0, _⟩ := DataW.trod_int Tryd.underlying58 h
  exact ⟨a, e0, by rw [f0]⟩
theorem rule_of {cs : List Value} {x : DataW H × List MemPlace} (h : DataW.trod enc Tryd.prog w base spare held m 60 cs = some x) :
    ∃ a b c : Int, cs = [.int .i64 a, .int .i64 b, .int .i64 c] ∧ x.1 = .agg [.lit (.int .i64 a), .lit (.int .i64 b), .lit (.int .i64 c)] := by
  obtain ⟨xs, n, _, rfl, hlen, hl, hf⟩ := DataW.trod_struct Tryd.underlying60 h
  have hc : Tryd.prog.cellsOf 60 = 3 := by kernel_rfl
  rw [hc] at hlen
  match cs, hlen with
  | [c0, c1, c2], _ =>
    match xs, hl with
    | [y0, y1, y2], _ =>
      have q1 : Tryd.prog.cellsOf 3 = 1 := by kernel_rfl
      have q2 : Tryd.prog.cellsOf 2 = 1 := by kernel_rfl
      obtain ⟨a, e0, f0⟩ := i64_of (x := y0) (hf 0 _ rfl)
      obtain ⟨b, e1, f1⟩ := i64b_of (x := y1) (hf 1 _ rfl)
      obtain ⟨c, e2, f2⟩ := i64b_of (x := y2) (hf 2 _ rfl)
      simp [q1, q2] at e0 e1 e2
      exact ⟨a, b, c, by rw [e0, e1, e2], by simp [f0, f1, f2]⟩
theorem five_of {cs : List Value} {x : DataW H × List MemPlace} (h : DataW.trod enc Tryd.prog w base spare held m 71 cs = some x) :
    ∃ a b c d e : Int, cs = [.int .i64 a, .int .i64 b, .int .i64 c, .int .i64 d, .int .i64 e] ∧ x.1 = .agg [.lit (.int .i64 a), .lit (.int .i64 b), .lit (.int .i64 c), .lit (.int .i64 d), .lit (.int .i64 e)] := by
  obtain ⟨xs, n, _, rfl, hlen, hl, hf⟩ := DataW.trod_array Tryd.underlying71 h
  have hc : Tryd.prog.cellsOf 71 = 5 := by kernel_rfl
  rw [hc] at hlen
  match cs, hlen with
  | [c0, c1, c2, c3, c4], _ =>
    match xs, hl with
    | [y0, y1, y2, y3, y4], _ =>
      have q1 : Tryd.prog.cellsOf 58 = 1 := by kernel_rfl
      obtain ⟨a, e0, f0⟩ := fld_of (x := y0) (hf 0 (by omega))
      obtain ⟨b, e1, f1⟩ := fld_of (x := y1) (hf 1 (by omega))
      obtain ⟨c, e2, f2⟩ := fld_of (x := y2) (hf 2 (by omega))
      obtain ⟨d, e3, f3⟩ := fld_of (x := y3) (hf 3 (by omega))
      obtain ⟨e, e4, f4⟩ := fld_of (x := y4) (hf 4 (by omega))
      simp [q1] at e0 e1 e2 e3 e4
      exact ⟨a, b, c, d, e, by rw [e0, e1, e2, e3, e4], by simp [f0, f1, f2, f3, f4]⟩
theorem naming_of {cs : List Value} {x : DataW H × List MemPlace} (h : DataW.trod enc Tryd.prog w base spare held m 73 cs = some x) :
    ∃ (s : ByteArray) (a b c d e : Int), cs = [.string s, .int .i64 a, .int .i64 b, .int .i64 c, .int .i64 d, .int .i64 e] ∧ x.1 = .agg [.lit (.string s.data.toList), .agg [.lit (.int .i64 a), .lit (.int .i64 b), .lit (.int .i64 c), .lit (.int .i64 d), .lit (.int .i64 e)]] := by
  obtain ⟨xs, n, _, rfl, hlen, hl, hf⟩ := DataW.trod_struct Tryd.underlying73 h
  have hc : Tryd.prog.cellsOf 73 = 6 := by kernel_rfl
  rw [hc] at hlen
  match cs, hlen with
  | [c0, c1, c2, c3, c4, c5], _ =>
    match xs, hl with
    | [y0, y1], _ =>
      have q1 : Tryd.prog.cellsOf 9 = 1 := by kernel_rfl
      have q5 : Tryd.prog.cellsOf 71 = 5 := by kernel_rfl
      obtain ⟨s, e0, f0, _⟩ := DataW.trod_string (x := y0) Tryd.underlying9 (hf 0 _ rfl)
      obtain ⟨a, b, c, d, e, e1, f1⟩ := five_of (x := y1) (hf 1 _ rfl)
      simp [q1] at e0
      simp [q5] at e1
      obtain ⟨rfl, rfl, rfl, rfl, rfl⟩ := e1
      exact ⟨s, a, b, c, d, e, by rw [e0], by simp [f0, f1]⟩
end
theorem take_at' {l r : List Value} {a n i : Nat} (h : (l.drop a).take n = r) (hi : i < n) : l[a + i]? = r[i]? := by
  rw [← h, List.getElem?_take, if_pos hi, List.getElem?_drop]

theorem of_laid {W : World} (h : laidMetH Tryd.prog laid1 W) : Tab W := by
  rw [MakeChecks.laidMetH_plain _ _ _ (by kernel_rfl)] at h
  obtain ⟨ps, ⟨g0, t0, cs0, f0, p0, q0, hg0, ht0, hv0, hd0, ⟨g1, t1, cs1, f1, p1, q1, hg1, ht1, hv1, hd1, _, _⟩, _⟩, _, _⟩ := h
  obtain rfl := Option.some.inj (gRules.symm.trans hg0)
  obtain rfl := Option.some.inj (tRules.symm.trans ht0)
  obtain rfl := Option.some.inj (gKinds.symm.trans hg1)
  obtain rfl := Option.some.inj (tKinds.symm.trans ht1)
  obtain ⟨xs, m1, rfl, hx1, _, hn, hel⟩ := DataW.trod_array Tryd.underlying61 hd0
  obtain ⟨ys, m2, rfl, hy1, _, hny, hely⟩ := DataW.trod_array Tryd.underlying74 hd1
  have c3 : Tryd.prog.cellsOf 60 = 3 := by kernel_rfl
  have c6 : Tryd.prog.cellsOf 73 = 6 := by kernel_rfl
  rw [c3] at hel
  rw [c6] at hely
  have hx := (congrArg Prod.fst hx1).symm
  have hy := (congrArg Prod.fst hy1).symm
  obtain ⟨l0⟩ := cs0
  obtain ⟨l1⟩ := cs1
  have hcell0 := World.var?_cell hg0 hv0
  have hcell1 := World.var?_cell hg1 hv1
  simp only at hel hely
  have hr : ∀ f, f < 9 → (l0.drop (f * 3)).take 3 = [.int .i64 (Wr.wid f : Nat), .int .i64 (Wr.lo f), .int .i64 (Wr.hi f)] := by
    intro f hf
    have hlt : f < xs.length := by omega
    have h1 := hel f hf
    rw [List.getElem?_eq_getElem hlt] at h1
    obtain ⟨a, b, c, e, hd⟩ := rule_of h1
    rw [e]
    have h2 : (xs.map (·.1))[f]? = some (xs[f]).1 := by simp [hlt]
    simp only [Rows.laid_wagonway_wire_rules, DataW.agg.injEq] at hx
    rw [hx, hd] at h2
    have cases_ : f = 0 ∨ f = 1 ∨ f = 2 ∨ f = 3 ∨ f = 4 ∨ f = 5 ∨ f = 6 ∨ f = 7 ∨ f = 8 := by omega
    rcases cases_ with rfl | rfl | rfl | rfl | rfl | rfl | rfl | rfl | rfl <;>
    · simp at h2
      obtain ⟨rfl, rfl, rfl⟩ := h2
      rfl
  have hk : ∀ f, f < 12 → (l1.drop (f * 6)).take 6 = [word f, .int .i64 (fldA f 0 : Nat), .int .i64 (fldA f 1 : Nat), .int .i64 (fldA f 2 : Nat), .int .i64 (fldA f 3 : Nat), .int .i64 (fldA f 4 : Nat)] := by
    intro f hf
    have hlt : f < ys.length := by omega
    have h1 := hely f hf
    rw [List.getElem?_eq_getElem hlt] at h1
    obtain ⟨s, a, b, c, d, e, eq, hd⟩ := naming_of h1
    rw [eq]
    have h2 : (ys.map (·.1))[f]? = some (ys[f]).1 := by simp [hlt]
    simp only [Rows.laid_wagonway_wire_kinds, DataW.agg.injEq] at hy
    rw [hy, hd] at h2
    have cases_ : f = 0 ∨ f = 1 ∨ f = 2 ∨ f = 3 ∨ f = 4 ∨ f = 5 ∨ f = 6 ∨ f = 7 ∨ f = 8 ∨ f = 9 ∨ f = 10 ∨ f = 11 := by omega
    obtain ⟨⟨s⟩⟩ := s
    rcases cases_ with rfl | rfl | rfl | rfl | rfl | rfl | rfl | rfl | rfl | rfl | rfl | rfl <;>
    · simp at h2
      obtain ⟨rfl, rfl, rfl, rfl, rfl, rfl⟩ := h2
      rfl
  refine ⟨fun f hf => ?_, fun f hf => ?_, fun f hf => ?_, fun k hk' => ?_, fun k hk' j hj => ?_⟩
  · rw [hcell0]
    have := take_at' (hr f hf) (i := 0) (by omega)
    simpa using this
  · rw [hcell0]
    have := take_at' (hr f hf) (i := 1) (by omega)
    simpa using this
  · rw [hcell0]
    have := take_at' (hr f hf) (i := 2) (by omega)
    simpa using this
  · rw [hcell1]
    have := take_at' (hk k hk') (i := 0) (by omega)
    simpa using this
  · rw [hcell1]
    have := take_at' (hk k hk') (i := 1 + j) (by omega)
    rw [← Nat.add_assoc] at this
    have e : ([word k, .int .i64 (fldA k 0 : Nat), .int .i64 (fldA k 1 : Nat), .int .i64 (fldA k 2 : Nat), .int .i64 (fldA k 3 : Nat), .int .i64 (fldA k 4 : Nat)] : List Value)[1 + j]? = some (.int .i64 (fldA k j : Nat)) := by
      have : j = 0 ∨ j = 1 ∨ j = 2 ∨ j = 3 ∨ j = 4 := by omega
      rcases this with rfl | rfl | rfl | rfl | rfl <;> rfl
    rw [e] at this
    simpa using this
end Go.Proofs.YtmfbokaaoffdnaaDoor
