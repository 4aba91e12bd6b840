/-
  Arguments as they come in: stamps, waiters, calls.
-/
import Derived.Test.YtnecmlkljijofaaSp0
import Derived.Deep.Slices
import Derived.Deep.Fields
import Derived.ChangeSlices
import Derived.ChangeSame
import Derived.OpenShut
import Derived.ProofKit
namespace Go.Proofs.Ytnecmlkljijofaa
set_option maxRecDepth 100000
set_option linter.unusedSimpArgs false
open Go Go.RowKit Sp
open Go.ChangeShapes Go.WideShapes Go.Deep

theorem bd_u64 {n : Int} (h : (Lit.int .u64 n).wf = true) : 0 ≤ n ∧ n ≤ 18446744073709551615 := by
  have h1 : IntKind.u64.min = 0 := rfl
  have h2 : IntKind.u64.max = 18446744073709551615 := rfl
  simp only [Lit.wf, Bool.and_eq_true, decide_eq_true_eq] at h
  omega
theorem bd_u32 {n : Int} (h : (Lit.int .u32 n).wf = true) : 0 ≤ n ∧ n ≤ 4294967295 := by
  have h1 : IntKind.u32.min = 0 := rfl
  have h2 : IntKind.u32.max = 4294967295 := rfl
  simp only [Lit.wf, Bool.and_eq_true, decide_eq_true_eq] at h
  omega
/-- Stamps in memory. -/
def NumsAt (w : World) (A : Option Addr) (l : List Nat) : Prop := ∀ j, j < l.length → ∃ a, A = some a ∧ w.cell? (a.add j) = some (.int .u64 ((l.getD j 0 : Nat) : Int))
theorem NumsAt.kept {w w' : World} {A : Option Addr} {l : List Nat} {X : Nat → Prop} (h : NumsAt w A l) (hk : Kept X w w') (hX : ∀ k, k < w.heap.size → ¬ X k) : NumsAt w' A l := by
  intro j hj
  obtain ⟨a, e, h2⟩ := h j hj
  exact ⟨a, e, hk.cell h2 (hX _ (World.block_lt_of_cell? w _ h2))⟩
/-- Waiters in memory. -/
def WtsAt (w : World) (A : Option Addr) (l : List Wt) : Prop :=
  ∀ k, k < l.length → ∃ a, A = some a ∧ w.cell? (a.add (k * 3)) = some (.int .i64 (l.getD k w0).r) ∧ w.cell? ⟨(a.add (k * 3)).block, (a.add (k * 3)).off + 1, none⟩ = some (.int .u64 (l.getD k w0).s) ∧ w.cell? ⟨(a.add (k * 3)).block, (a.add (k * 3)).off + 2, none⟩ = some (.int .i64 (l.getD k w0).p)
theorem WtsAt.kept {w w' : World} {A : Option Addr} {l : List Wt} {X : Nat → Prop} (h : WtsAt w A l) (hk : Kept X w w') (hX : ∀ k, k < w.heap.size → ¬ X k) : WtsAt w' A l := by
  intro j hj
  obtain ⟨a, e, h0, h1, h2⟩ := h j hj
  exact ⟨a, e, hk.cell h0 (hX _ (World.block_lt_of_cell? w _ h0)), hk.cell h1 (hX _ (World.block_lt_of_cell? w _ h1)), hk.cell h2 (hX _ (World.block_lt_of_cell? w _ h2))⟩
/-- A call. -/
structure Sp.Cl where
  kind : Int
  w : Wt
instance : Inhabited Sp.Cl := ⟨⟨0, w0⟩⟩
instance : Inhabited Sp.Wt := ⟨w0⟩
def OpsAt (w : World) (A : Option Addr) (l : List Cl) : Prop :=
  ∀ k, k < l.length → ∃ a, A = some a ∧ w.cell? (a.add (k * 4)) = some (.int .i64 (l.getD k default).kind) ∧ w.cell? ⟨(a.add (k * 4)).block, (a.add (k * 4)).off + 1, none⟩ = some (.int .i64 (l.getD k default).w.r) ∧ w.cell? ⟨(a.add (k * 4)).block, (a.add (k * 4)).off + 2, none⟩ = some (.int .u64 (l.getD k default).w.s) ∧ w.cell? ⟨(a.add (k * 4)).block, (a.add (k * 4)).off + 3, none⟩ = some (.int .i64 (l.getD k default).w.p)
theorem OpsAt.kept {w w' : World} {A : Option Addr} {l : List Cl} {X : Nat → Prop} (h : OpsAt w A l) (hk : Kept X w w') (hX : ∀ k, k < w.heap.size → ¬ X k) : OpsAt w' A l := by
  intro j hj
  obtain ⟨a, e, h0, h1, h2, h3⟩ := h j hj
  exact ⟨a, e, hk.cell h0 (hX _ (World.block_lt_of_cell? w _ h0)), hk.cell h1 (hX _ (World.block_lt_of_cell? w _ h1)), hk.cell h2 (hX _ (World.block_lt_of_cell? w _ h2)), hk.cell h3 (hX _ (World.block_lt_of_cell? w _ h3))⟩
theorem choose_list {α : Type} [Inhabited α] {P : Nat → α → Prop} : ∀ n, (∀ i, i < n → ∃ x, P i x) → ∃ l : List α, l.length = n ∧ ∀ i, i < n → P i (l.getD i default)
  | 0, _ => ⟨[], rfl, fun i hi => by omega⟩
  | n + 1, h => by
    obtain ⟨l, hl, hp⟩ := choose_list n (fun i hi => h i (by omega))
    obtain ⟨x, hx⟩ := h n (by omega)
    refine ⟨l ++ [x], by simp [hl], fun i hi => ?_⟩
    by_cases e : i = n
    · subst e
      have : (l ++ [x]).getD i default = x := by rw [← hl]; simp [List.getD]
      rw [this]; exact hx
    · have : (l ++ [x]).getD i default = l.getD i default := by simp [List.getD, List.getElem?_append_left (show i < l.length by omega)]
      rw [this]; exact hp i (by omega)
section
variable {H : Type} {enc : TypeId × Value → H} {w : World} {base : Nat} {spare : Nat → Bool} {held : Bool}
theorem u64s_in {v : Value} {d : DataW H} {ps : List MemPlace} {r : Reach} {b0 : Nat} (hv : Value.okWide Try.prog w r b0 23 v) (h : DataW.Trod enc Try.prog w base spare held 23 v d ps) :
    ∃ (A : Option Addr) (l : List Nat) (cap : Nat), v = .slice A l.length cap ∧ NumsAt w A l ∧ (∀ x ∈ l, x ≤ 18446744073709551615) ∧ l.length ≤ maxLen := by
  have hc : Try.prog.cellsOf 27 = 1 := by kernel_rfl
  obtain ⟨a, len, cap, rfl⟩ := okWide_slice Try.underlying23 hv
  obtain ⟨fuel, hf⟩ := h
  rcases Go.ChangeShapes.open_ints Try.underlying23 Try.underlying27 hc hf with ⟨h0, _⟩ | ⟨a', len', cap', zs, hcs, hb, hl, hm, hz, _, hi, hwf⟩
  · have e : (Value.slice a len cap) = .slice none 0 0 := by simpa [Value.cells] using h0
    cases e
    exact ⟨none, [], 0, rfl, fun k hk => by simp at hk, by simp, by simp [maxLen]⟩
  · have e : (Value.slice a len cap) = .slice (some a') len' cap' := by simpa [Value.cells] using hcs
    cases e
    have hzl : len ≤ zs.length := by rw [hz]; split <;> omega
    have htl : ((zs.take len).map Int.toNat).length = len := by rw [List.length_map, List.length_take]; omega
    refine ⟨some a', (zs.take len).map Int.toNat, cap, by rw [htl], fun j hj => ?_, fun x hx => ?_, by rw [htl]; omega⟩
    · rw [htl] at hj
      have h1 := hi j (by omega)
      refine ⟨a', rfl, ?_⟩
      rw [h1]
      have hjz : j < zs.length := by omega
      have h2 := (bd_u64 (hwf _ (List.getElem_mem hjz))).1
      have h3 : ((zs.take len).map Int.toNat).getD j 0 = (zs[j]).toNat := by
        rw [List.getD_eq_getElem?_getD, List.getElem?_map, List.getElem?_take, if_pos hj, List.getElem?_eq_getElem hjz]; rfl
      have h4 : zs.getD j 0 = zs[j] := by rw [List.getD_eq_getElem?_getD, List.getElem?_eq_getElem hjz]; rfl
      rw [h3, h4, Int.toNat_of_nonneg h2]
    · obtain ⟨z, hz2, rfl⟩ := List.mem_map.1 hx
      have h2 := bd_u64 (hwf z (List.mem_of_mem_take hz2))
      omega
theorem int_of {fuel : Nat} {c : List Value} {x : DataW H × List MemPlace} (h : DataW.trod enc Try.prog w base spare held fuel 3 c = some x) : ∃ n : Int, c = [.int .i64 n] := by
  obtain ⟨n, e, _, _⟩ := DataW.trod_int Try.underlying3 h
  exact ⟨n, e⟩
theorem u64_of {fuel : Nat} {c : List Value} {x : DataW H × List MemPlace} (h : DataW.trod enc Try.prog w base spare held fuel 27 c = some x) : ∃ n : Int, c = [.int .u64 n] := by
  obtain ⟨n, e, _, _⟩ := DataW.trod_int Try.underlying27 h
  exact ⟨n, e⟩
theorem wt_of {fuel : Nat} {cs : List Value} {x : DataW H × List MemPlace} (h : DataW.trod enc Try.prog w base spare held fuel 40 cs = some x) : ∃ y : Wt, cs = [.int .i64 y.r, .int .u64 y.s, .int .i64 y.p] := by
  obtain ⟨xs, n, _, _, hlen, hxl, hf⟩ := DataW.trod_struct Try.underlying40 h
  have hc : Try.prog.cellsOf 40 = 3 := by kernel_rfl
  have q1 : Try.prog.cellsOf 3 = 1 := by kernel_rfl
  have q2 : Try.prog.cellsOf 27 = 1 := by kernel_rfl
  rw [hc] at hlen
  match cs, hlen with
  | [c0, c1, c2], _ =>
    match xs, hxl with
    | [y0, y1, y2], _ =>
      obtain ⟨a0, e0⟩ := int_of (x := y0) (hf 0 _ rfl)
      obtain ⟨a1, e1⟩ := u64_of (x := y1) (hf 1 _ rfl)
      obtain ⟨a2, e2⟩ := int_of (x := y2) (hf 2 _ rfl)
      simp [q1, q2] at e0 e1 e2
      exact ⟨⟨a0, a1, a2⟩, by rw [e0, e1, e2]⟩
theorem wtb_of {fuel : Nat} {cs : List Value} {x : DataW H × List MemPlace} (h : DataW.trod enc Try.prog w base spare held fuel 40 cs = some x) : ∃ y : Wt, cs = [.int .i64 y.r, .int .u64 y.s, .int .i64 y.p] ∧ -9223372036854775808 ≤ y.r ∧ y.r ≤ 9223372036854775807 := by
  obtain ⟨xs, n, _, _, hlen, hxl, hf⟩ := DataW.trod_struct Try.underlying40 h
  have hc : Try.prog.cellsOf 40 = 3 := by kernel_rfl
  have q1 : Try.prog.cellsOf 3 = 1 := by kernel_rfl
  have q2 : Try.prog.cellsOf 27 = 1 := by kernel_rfl
  rw [hc] at hlen
  match cs, hlen with
  | [c0, c1, c2], _ =>
    match xs, hxl with
    | [y0, y1, y2], _ =>
      obtain ⟨a0, e0, _, w0'⟩ := DataW.trod_int Try.underlying3 (x := y0) (hf 0 _ rfl)
      obtain ⟨a1, e1⟩ := u64_of (x := y1) (hf 1 _ rfl)
      obtain ⟨a2, e2⟩ := int_of (x := y2) (hf 2 _ rfl)
      simp [q1, q2] at e0 e1 e2
      have hb : -9223372036854775808 ≤ a0 ∧ a0 ≤ 9223372036854775807 := by
        have h1 : IntKind.i64.min = -9223372036854775808 := rfl
        have h2 : IntKind.i64.max = 9223372036854775807 := rfl
        simp only [Lit.wf, Bool.and_eq_true, decide_eq_true_eq] at w0'
        omega
      exact ⟨⟨a0, a1, a2⟩, by rw [e0, e1, e2], hb.1, hb.2⟩
theorem wts_in {v : Value} {d : DataW H} {ps : List MemPlace} {r : Reach} {b0 : Nat} (hv : Value.okWide Try.prog w r b0 45 v) (h : DataW.Trod enc Try.prog w base spare held 45 v d ps) :
    ∃ (A : Option Addr) (l : List Wt) (cap : Nat), v = .slice A l.length cap ∧ WtsAt w A l ∧ l.length ≤ maxLen ∧ ∀ k, k < l.length → -9223372036854775808 ≤ (l.getD k w0).r ∧ (l.getD k w0).r ≤ 9223372036854775807 := by
  obtain ⟨a, len, cap, rfl⟩ := okWide_slice Try.underlying45 hv
  obtain ⟨fuel, hf⟩ := h
  have hc : Try.prog.cellsOf 40 = 3 := by kernel_rfl
  rcases open_slice Try.underlying45 hf with ⟨h0, _⟩ | ⟨a', len', cap', m, n, D, Pl, hcs, hb, hl, hm, hmm, hx, hi⟩
  · have e : (Value.slice a len cap) = .slice none 0 0 := by simpa [Value.cells] using h0
    cases e
    exact ⟨none, [], 0, rfl, fun k hk => by simp at hk, by simp [maxLen], fun k hk => by simp at hk⟩
  · have e : (Value.slice a len cap) = .slice (some a') len' cap' := by simpa [Value.cells] using hcs
    cases e
    have hml : len ≤ m := by rw [hmm]; split <;> omega
    obtain ⟨l, hll, hp⟩ := choose_list (P := fun i (x : Wt) => w.cell? (a'.add (i * 3)) = some (.int .i64 x.r) ∧ w.cell? ((a'.add (i * 3)).add 1) = some (.int .u64 x.s) ∧ w.cell? ((a'.add (i * 3)).add 2) = some (.int .i64 x.p) ∧ -9223372036854775808 ≤ x.r ∧ x.r ≤ 9223372036854775807) len (by
      intro i hil
      obtain ⟨cs', hcs', ht⟩ := hi i (by omega)
      rw [hc] at hcs'
      obtain ⟨it, rfl, hb1, hb2⟩ := wtb_of ht
      obtain ⟨_, hcl, hat⟩ := World.cells?_some hcs'
      have h0 := hat 0 (by omega)
      have h1 := hat 1 (by omega)
      have h2 := hat 2 (by omega)
      have e0 : (a'.add (i * 3)).add 0 = a'.add (i * 3) := by simp [Addr.add]
      rw [e0] at h0
      exact ⟨it, h0, h1, h2, hb1, hb2⟩)
    refine ⟨some a', l, cap, by rw [hll], fun k hk => ?_, by omega, fun k hk => (hp k (by omega)).2.2.2⟩
    obtain ⟨h0, h1, h2, _⟩ := hp k (by omega)
    exact ⟨a', rfl, h0, h1, h2⟩
theorem op_of {fuel : Nat} {cs : List Value} {x : DataW H × List MemPlace} (h : DataW.trod enc Try.prog w base spare held fuel 49 cs = some x) : ∃ y : Cl, cs = [.int .i64 y.kind, .int .i64 y.w.r, .int .u64 y.w.s, .int .i64 y.w.p] := by
  obtain ⟨xs, n, _, _, hlen, hxl, hf⟩ := DataW.trod_struct Try.underlying49 h
  have hc : Try.prog.cellsOf 49 = 4 := by kernel_rfl
  have q1 : Try.prog.cellsOf 3 = 1 := by kernel_rfl
  have q2 : Try.prog.cellsOf 40 = 3 := by kernel_rfl
  rw [hc] at hlen
  match cs, hlen with
  | [c0, c1, c2, c3], _ =>
    match xs, hxl with
    | [y0, y1], _ =>
      obtain ⟨a0, e0⟩ := int_of (x := y0) (hf 0 _ rfl)
      obtain ⟨y, e1⟩ := wt_of (x := y1) (hf 1 _ rfl)
      simp [q1, q2] at e0 e1
      exact ⟨⟨a0, y⟩, by rw [e0, e1.1, e1.2.1, e1.2.2]⟩
theorem ops_in {v : Value} {d : DataW H} {ps : List MemPlace} {r : Reach} {b0 : Nat} (hv : Value.okWide Try.prog w r b0 37 v) (h : DataW.Trod enc Try.prog w base spare held 37 v d ps) :
    ∃ (A : Option Addr) (l : List Cl) (cap : Nat), v = .slice A l.length cap ∧ OpsAt w A l ∧ l.length ≤ maxLen := by
  obtain ⟨a, len, cap, rfl⟩ := okWide_slice Try.underlying37 hv
  obtain ⟨fuel, hf⟩ := h
  have hc : Try.prog.cellsOf 49 = 4 := by kernel_rfl
  rcases open_slice Try.underlying37 hf with ⟨h0, _⟩ | ⟨a', len', cap', m, n, D, Pl, hcs, hb, hl, hm, hmm, hx, hi⟩
  · have e : (Value.slice a len cap) = .slice none 0 0 := by simpa [Value.cells] using h0
    cases e
    exact ⟨none, [], 0, rfl, fun k hk => by simp at hk, by simp [maxLen]⟩
  · have e : (Value.slice a len cap) = .slice (some a') len' cap' := by simpa [Value.cells] using hcs
    cases e
    have hml : len ≤ m := by rw [hmm]; split <;> omega
    obtain ⟨l, hll, hp⟩ := choose_list (P := fun i (x : Cl) => w.cell? (a'.add (i * 4)) = some (.int .i64 x.kind) ∧ w.cell? ((a'.add (i * 4)).add 1) = some (.int .i64 x.w.r) ∧ w.cell? ((a'.add (i * 4)).add 2) = some (.int .u64 x.w.s) ∧ w.cell? ((a'.add (i * 4)).add 3) = some (.int .i64 x.w.p)) len (by
      intro i hil
      obtain ⟨cs', hcs', ht⟩ := hi i (by omega)
      rw [hc] at hcs'
      obtain ⟨it, rfl⟩ := op_of ht
      obtain ⟨_, hcl, hat⟩ := World.cells?_some hcs'
      have h0 := hat 0 (by omega)
      have h1 := hat 1 (by omega)
      have h2 := hat 2 (by omega)
      have h3 := hat 3 (by omega)
      have e0 : (a'.add (i * 4)).add 0 = a'.add (i * 4) := by simp [Addr.add]
      rw [e0] at h0
      exact ⟨it, h0, h1, h2, h3⟩)
    refine ⟨some a', l, cap, by rw [hll], fun k hk => ?_, by omega⟩
    obtain ⟨h0, h1, h2, h3⟩ := hp k (by omega)
    exact ⟨a', rfl, h0, h1, h2, h3⟩
end
end Go.Proofs.Ytnecmlkljijofaa
