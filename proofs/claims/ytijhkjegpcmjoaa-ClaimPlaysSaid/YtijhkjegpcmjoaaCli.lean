/-
  Arguments as they come in: calls.
-/
import Derived.Test.YtijhkjegpcmjoaaCl0
import Derived.Deep.Slices
import Derived.Deep.Fields
import Derived.ChangeSlices
import Derived.ChangeSame
import Derived.OpenShut
import Derived.ProofKit
namespace Go.Proofs.Ytijhkjegpcmjoaa
set_option maxRecDepth 100000
set_option linter.unusedSimpArgs false
open Go Go.RowKit Cl
open Go.ChangeShapes Go.WideShapes Go.Deep

theorem bd_u32 {n : Int} (h : (Lit.int .u32 n).wf = true) : 0 ≤ n ∧ n ≤ 4294967295 := by
  have h1 : IntKind.u32.min = 0 := rfl
  have h2 : IntKind.u32.max = 4294967295 := rfl
  simp only [Lit.wf, Bool.and_eq_true, decide_eq_true_eq] at h
  omega
theorem bd_u8 {n : Int} (h : (Lit.int .u8 n).wf = true) : 0 ≤ n ∧ n ≤ 255 := by
  have h1 : IntKind.u8.min = 0 := rfl
  have h2 : IntKind.u8.max = 255 := rfl
  simp only [Lit.wf, Bool.and_eq_true, decide_eq_true_eq] at h
  omega
/-- A call: its kind, its claim, and how many robots. -/
structure Cl.Kop where
  k : Int
  c : Int
  g : Int
  r : Int
instance : Inhabited Cl.Kop := ⟨⟨0, 0, 0, 0⟩⟩
def OpsAt (w : World) (A : Option Addr) (l : List Kop) : Prop :=
  ∀ k, k < l.length → ∃ a, A = some a ∧ w.cell? (a.add (k * 4)) = some (.int .i64 (l.getD k default).k) ∧ w.cell? ⟨(a.add (k * 4)).block, (a.add (k * 4)).off + 1, none⟩ = some (.int .i64 (l.getD k default).c) ∧ w.cell? ⟨(a.add (k * 4)).block, (a.add (k * 4)).off + 2, none⟩ = some (.int .u32 (l.getD k default).g) ∧ w.cell? ⟨(a.add (k * 4)).block, (a.add (k * 4)).off + 3, none⟩ = some (.int .i64 (l.getD k default).r)
theorem OpsAt.kept {w w' : World} {A : Option Addr} {l : List Kop} {X : Nat → Prop} (h : OpsAt w A l) (hk : Kept X w w') (hX : ∀ k, k < w.heap.size → ¬ X k) : OpsAt w' A l := by
  intro j hj
  obtain ⟨a, e, h0, h1, h2, h3⟩ := h j hj
  exact ⟨a, e, hk.cell h0 (hX _ (World.block_lt_of_cell? w _ h0)), hk.cell h1 (hX _ (World.block_lt_of_cell? w _ h1)), hk.cell h2 (hX _ (World.block_lt_of_cell? w _ h2)), hk.cell h3 (hX _ (World.block_lt_of_cell? w _ h3))⟩
theorem choose_list {α : Type} [Inhabited α] {P : Nat → α → Prop} : ∀ n, (∀ i, i < n → ∃ x, P i x) → ∃ l : List α, l.length = n ∧ ∀ i, i < n → P i (l.getD i default)
  | 0, _ => ⟨[], rfl, fun i hi => by omega⟩
  | n + 1, h => by
    obtain ⟨l, hl, hp⟩ := choose_list n (fun i hi => h i (by omega))
    obtain ⟨x, hx⟩ := h n (by omega)
    refine ⟨l ++ [x], by simp [hl], fun i hi => ?_⟩
    by_cases e : i = n
    · subst e
      have : (l ++ [x]).getD i default = x := by rw [← hl]; simp [List.getD]
      rw [this]; exact hx
    · have : (l ++ [x]).getD i default = l.getD i default := by simp [List.getD, List.getElem?_append_left (show i < l.length by omega)]
      rw [this]; exact hp i (by omega)

section
variable {H : Type} {enc : TypeId × Value → H} {w : World} {base : Nat} {spare : Nat → Bool} {held : Bool}
theorem int_of {fuel : Nat} {c : List Value} {x : DataW H × List MemPlace} (h : DataW.trod enc Try.prog w base spare held fuel 3 c = some x) : ∃ n : Int, c = [.int .i64 n] ∧ -9223372036854775808 ≤ n ∧ n ≤ 9223372036854775807 := by
  obtain ⟨n, e, _, w0'⟩ := DataW.trod_int Try.underlying3 h
  have h1 : IntKind.i64.min = -9223372036854775808 := rfl
  have h2 : IntKind.i64.max = 9223372036854775807 := rfl
  simp only [Lit.wf, Bool.and_eq_true, decide_eq_true_eq] at w0'
  exact ⟨n, e, by omega, by omega⟩
theorem u32_of {fuel : Nat} {c : List Value} {x : DataW H × List MemPlace} (h : DataW.trod enc Try.prog w base spare held fuel 24 c = some x) : ∃ n : Int, c = [.int .u32 n] ∧ 0 ≤ n ∧ n < 4294967296 := by
  obtain ⟨n, e, _, w0'⟩ := DataW.trod_int Try.underlying24 h
  have := bd_u32 w0'
  exact ⟨n, e, by omega, by omega⟩
/-- What is known of a call's numbers. -/
def OpIn (y : Kop) : Prop := (0 ≤ y.g ∧ y.g < 4294967296) ∧ (-9223372036854775808 ≤ y.c ∧ y.c ≤ 9223372036854775807) ∧ -9223372036854775808 ≤ y.r ∧ y.r ≤ 9223372036854775807
theorem op_of {fuel : Nat} {cs : List Value} {x : DataW H × List MemPlace} (h : DataW.trod enc Try.prog w base spare held fuel 36 cs = some x) : ∃ y : Kop, cs = [.int .i64 y.k, .int .i64 y.c, .int .u32 y.g, .int .i64 y.r] ∧ OpIn y := by
  obtain ⟨xs, n, _, _, hlen, hxl, hf⟩ := DataW.trod_struct Try.underlying36 h
  have hc : Try.prog.cellsOf 36 = 4 := by kernel_rfl
  have q1 : Try.prog.cellsOf 3 = 1 := by kernel_rfl
  have q2 : Try.prog.cellsOf 24 = 1 := by kernel_rfl
  rw [hc] at hlen
  match cs, hlen with
  | [c0, c1, c2, c3], _ =>
    match xs, hxl with
    | [y0, y1, y2, y3], _ =>
      obtain ⟨a0, e0, _⟩ := int_of (x := y0) (hf 0 _ rfl)
      obtain ⟨a1, e1, b1⟩ := int_of (x := y1) (hf 1 _ rfl)
      obtain ⟨a2, e2, b2⟩ := u32_of (x := y2) (hf 2 _ rfl)
      obtain ⟨a3, e3, b3⟩ := int_of (x := y3) (hf 3 _ rfl)
      simp [q1, q2] at e0 e1 e2 e3
      exact ⟨⟨a0, a1, a2, a3⟩, by rw [e0, e1, e2, e3], b2, b1, b3⟩
theorem kop_in {v : Value} {d : DataW H} {ps : List MemPlace} {r : Reach} {b0 : Nat} (hv : Value.okWide Try.prog w r b0 36 v) (h : DataW.Trod enc Try.prog w base spare held 36 v d ps) :
    ∃ x : Kop, v = .agg #[.int .i64 x.k, .int .i64 x.c, .int .u32 x.g, .int .i64 x.r] ∧ OpIn x := by
  obtain ⟨cs, rfl, hsz⟩ := okWide_struct Try.underlying36 hv
  obtain ⟨fuel, hf⟩ := h
  obtain ⟨l⟩ := cs
  obtain ⟨y, e, hy⟩ := op_of hf
  have e' : l = _ := e
  exact ⟨y, by rw [e'], hy⟩
theorem kops_in {v : Value} {d : DataW H} {ps : List MemPlace} {r : Reach} {b0 : Nat} (hv : Value.okWide Try.prog w r b0 22 v) (h : DataW.Trod enc Try.prog w base spare held 22 v d ps) :
    ∃ (A : Option Addr) (l : List Kop) (cap : Nat), v = .slice A l.length cap ∧ OpsAt w A l ∧ ∀ k, k < l.length → OpIn (l.getD k default) := by
  obtain ⟨a, len, cap, rfl⟩ := okWide_slice Try.underlying22 hv
  obtain ⟨fuel, hf⟩ := h
  have hc : Try.prog.cellsOf 36 = 4 := by kernel_rfl
  rcases open_slice Try.underlying22 hf with ⟨h0, _⟩ | ⟨a', len', cap', m, n, D, Pl, hcs, hb, hl, hm, hmm, hx, hi⟩
  · have e : (Value.slice a len cap) = .slice none 0 0 := by simpa [Value.cells] using h0
    cases e
    exact ⟨none, [], 0, rfl, fun k hk => by simp at hk, fun k hk => by simp at hk⟩
  · have e : (Value.slice a len cap) = .slice (some a') len' cap' := by simpa [Value.cells] using hcs
    cases e
    have hml : len ≤ m := by rw [hmm]; split <;> omega
    obtain ⟨l, hll, hp⟩ := choose_list (P := fun i (x : Kop) => w.cell? (a'.add (i * 4)) = some (.int .i64 x.k) ∧ w.cell? ((a'.add (i * 4)).add 1) = some (.int .i64 x.c) ∧ w.cell? ((a'.add (i * 4)).add 2) = some (.int .u32 x.g) ∧ w.cell? ((a'.add (i * 4)).add 3) = some (.int .i64 x.r) ∧ OpIn x) len (by
      intro i hil
      obtain ⟨cs', hcs', ht⟩ := hi i (by omega)
      rw [hc] at hcs'
      obtain ⟨it, rfl, hin⟩ := op_of ht
      obtain ⟨_, hcl, hat⟩ := World.cells?_some hcs'
      have h0 := hat 0 (by omega)
      have h1 := hat 1 (by omega)
      have h2 := hat 2 (by omega)
      have h3 := hat 3 (by omega)
      have e0 : (a'.add (i * 4)).add 0 = a'.add (i * 4) := by simp [Addr.add]
      rw [e0] at h0
      exact ⟨it, h0, h1, h2, h3, hin⟩)
    refine ⟨some a', l, cap, by rw [hll], fun k hk => ?_, fun k hk => (hp k (by omega)).2.2.2.2⟩
    obtain ⟨h0, h1, h2, h3, _⟩ := hp k (by omega)
    exact ⟨a', rfl, h0, h1, h2, h3⟩
end
end Go.Proofs.Ytijhkjegpcmjoaa
