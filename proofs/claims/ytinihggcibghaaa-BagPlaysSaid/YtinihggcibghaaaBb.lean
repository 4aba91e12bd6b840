/-
  The laws' calls as they come in; whether they are too many.
-/
import Derived.Test.YtinihggcibghaaaB0
import Derived.Deep.Slices
import Derived.Deep.Fields
import Derived.ChangeSlices
import Derived.ChangeSame
import Derived.OpenShut
namespace Go.Proofs.Ytinihggcibghaaa
set_option maxRecDepth 100000
set_option linter.unusedSimpArgs false
open Go Go.RowKit Bg
open Go.ChangeShapes Go.WideShapes Go.Deep

theorem choose_nat {α : Type} [Inhabited α] {P : Nat → α → Prop} : ∀ n, (∀ i, i < n → ∃ x, P i x) → ∃ l : List α, l.length = n ∧ ∀ i, i < n → P i (l.getD i default)
  | 0, _ => ⟨[], rfl, fun i hi => by omega⟩
  | n + 1, h => by
    obtain ⟨l, hl, hp⟩ := choose_nat n (fun i hi => h i (by omega))
    obtain ⟨x, hx⟩ := h n (by omega)
    refine ⟨l ++ [x], by simp [hl], fun i hi => ?_⟩
    by_cases e : i = n
    · subst e
      have : (l ++ [x]).getD i default = x := by rw [← hl]; simp [List.getD]
      rw [this]; exact hx
    · have : (l ++ [x]).getD i default = l.getD i default := by simp [List.getD, List.getElem?_append_left (show i < l.length by omega)]
      rw [this]; exact hp i (by omega)

/-- A call: its data's address and capacity beside it. -/
structure Bg.Cl where
  kind : Int
  n : Int
  at_ : Int
  d : List Nat
  A : Option Addr
  cap : Nat
  v : Nat
  many : Int
instance : Inhabited Bg.Cl := ⟨⟨0, 0, 0, [], none, 0, 0, 0⟩⟩
@[reducible] def opA (x : Cl) : Value := .agg #[.int .i64 x.kind, .int .i64 x.n, .int .i64 x.at_, .slice x.A x.d.length x.cap, .int .u8 (x.v : Nat), .int .i64 x.many]
structure OpOk (w : World) (x : Cl) : Prop where
  dat : BytesAt w x.A x.d
  lt : ∀ c ∈ x.d, c < 256
  nil : x.A = none → x.d = [] ∧ x.cap = 0
  le : x.d.length ≤ x.cap
  mx : x.cap ≤ maxLen
  v : x.v < 256
theorem OpOk.below {w w' : World} {x : Cl} (h : OpOk w x) (hb : Below w.heap.size w w') : OpOk w' x := ⟨h.dat.below hb, h.lt, h.nil, h.le, h.mx, h.v⟩
/-- Calls at an address. -/
def OpsAt (w : World) (A : Option Addr) (l : List Cl) : Prop := ∀ k, k < l.length → ∃ a, A = some a ∧ (w.cell? (a.add (k * 6)) = some (.int .i64 (l.getD k default).kind) ∧ w.cell? ⟨(a.add (k * 6)).block, (a.add (k * 6)).off + 1, none⟩ = some (.int .i64 (l.getD k default).n) ∧ w.cell? ⟨(a.add (k * 6)).block, (a.add (k * 6)).off + 2, none⟩ = some (.int .i64 (l.getD k default).at_) ∧
  w.cell? ⟨(a.add (k * 6)).block, (a.add (k * 6)).off + 3, none⟩ = some (.slice (l.getD k default).A (l.getD k default).d.length (l.getD k default).cap) ∧ w.cell? ⟨(a.add (k * 6)).block, (a.add (k * 6)).off + 4, none⟩ = some (.int .u8 ((l.getD k default).v : Nat)) ∧ w.cell? ⟨(a.add (k * 6)).block, (a.add (k * 6)).off + 5, none⟩ = some (.int .i64 (l.getD k default).many)) ∧ OpOk w (l.getD k default)
theorem OpsAt.below {w w' : World} {A : Option Addr} {l : List Cl} (h : OpsAt w A l) (hb : Below w.heap.size w w') : OpsAt w' A l := by
  intro k hk
  obtain ⟨a, e, ⟨h0, h1, h2, h3, h4, h5⟩, h6⟩ := h k hk
  have kk : Kept (fun _ => False) w w' := Kept.of_below hb (Nat.le_refl _)
  exact ⟨a, e, ⟨kk.cell h0 id, kk.cell h1 id, kk.cell h2 id, kk.cell h3 id, kk.cell h4 id, kk.cell h5 id⟩, h6.below hb⟩

section
variable {H : Type} {enc : TypeId × Value → H} {w : World} {base : Nat} {spare : Nat → Bool} {held : Bool}
theorem int_of {fuel : Nat} {c : List Value} {x : DataW H × List MemPlace} (h : DataW.trod enc Try.prog w base spare held fuel 3 c = some x) : ∃ n : Int, c = [.int .i64 n] := by
  obtain ⟨n, e, _, _⟩ := DataW.trod_int Try.underlying3 h
  exact ⟨n, e⟩
theorem u8_of {fuel : Nat} {c : List Value} {x : DataW H × List MemPlace} (h : DataW.trod enc Try.prog w base spare held fuel 5 c = some x) : ∃ n : Nat, c = [.int .u8 (n : Nat)] ∧ n < 256 := by
  obtain ⟨n, e, _, hw⟩ := DataW.trod_int Try.underlying5 h
  have hb := bounds_u8 hw
  obtain ⟨k, rfl⟩ := Int.eq_ofNat_of_zero_le hb.1
  exact ⟨k, e, by omega⟩
theorem bytes_of {fuel : Nat} {v : Value} {x : DataW H × List MemPlace} (hf : DataW.trod enc Try.prog w base spare held fuel 34 [v] = some x) :
    ∃ (A : Option Addr) (l : List Nat) (cap : Nat), v = .slice A l.length cap ∧ BytesAt w A l ∧ (∀ c ∈ l, c < 256) ∧ l.length ≤ cap ∧ cap ≤ maxLen ∧ (A = none → l = [] ∧ cap = 0) := by
  have hc : Try.prog.cellsOf 5 = 1 := by kernel_rfl
  rcases open_slice1 Try.underlying34 hc hf with ⟨h0, _⟩ | ⟨a', len', cap', m, n, V, D, Pl, hcs, hb, hl, hm, hmm, hx, hi⟩
  · have e : v = .slice none 0 0 := by simpa using h0
    exact ⟨none, [], 0, e, fun k hk => by simp at hk, fun x hx => by simp at hx, by simp, by simp [maxLen], fun _ => ⟨rfl, rfl⟩⟩
  · have e : v = .slice (some a') len' cap' := by simpa using hcs
    have hml : len' ≤ m := by rw [hmm]; split <;> omega
    obtain ⟨l, hll, hp⟩ := choose_nat (P := fun i (x : Nat) => w.cell? (a'.add i) = some (byV x) ∧ x < 256) len' (by
      intro i hil
      obtain ⟨h1, h2⟩ := hi i (by omega)
      obtain ⟨k, e, hk⟩ := u8_of h2
      simp at e
      exact ⟨k, by rw [h1, e]; rfl, hk⟩)
    refine ⟨some a', l, cap', by rw [hll]; exact e, fun k hk => ?_, fun x hx => ?_, by omega, hm, fun e => by cases e⟩
    · exact ⟨a', rfl, (hp k (by omega)).1⟩
    · obtain ⟨j, hj, rfl⟩ := List.getElem_of_mem hx
      have := (hp j (by omega)).2
      simpa [List.getD, hj] using this
theorem op_of {fuel : Nat} {cs : List Value} {x : DataW H × List MemPlace} (h : DataW.trod enc Try.prog w base spare held fuel 36 cs = some x) :
    ∃ y : Cl, cs = [.int .i64 y.kind, .int .i64 y.n, .int .i64 y.at_, .slice y.A y.d.length y.cap, .int .u8 (y.v : Nat), .int .i64 y.many] ∧ OpOk w y := by
  obtain ⟨xs, n, _, _, hlen, hxl, hf⟩ := DataW.trod_struct Try.underlying36 h
  have hc : Try.prog.cellsOf 36 = 6 := by kernel_rfl
  have q1 : Try.prog.cellsOf 3 = 1 := by kernel_rfl
  have q2 : Try.prog.cellsOf 5 = 1 := by kernel_rfl
  have q3 : Try.prog.cellsOf 34 = 1 := by kernel_rfl
  rw [hc] at hlen
  match cs, hlen with
  | [c0, c1, c2, c3, c4, c5], _ =>
    match xs, hxl with
    | [y0, y1, y2, y3, y4, y5], _ =>
      have f3 := hf 3 _ rfl
      obtain ⟨a0, e0⟩ := int_of (x := y0) (hf 0 _ rfl)
      obtain ⟨a1, e1⟩ := int_of (x := y1) (hf 1 _ rfl)
      obtain ⟨a2, e2⟩ := int_of (x := y2) (hf 2 _ rfl)
      obtain ⟨a4, e4, b4⟩ := u8_of (x := y4) (hf 4 _ rfl)
      obtain ⟨a5, e5⟩ := int_of (x := y5) (hf 5 _ rfl)
      simp [q1, q2, q3] at e0 e1 e2 e4 e5 f3
      obtain ⟨A, l, cap, e3, g1, g2, g3, g4, g5⟩ := bytes_of (x := y3) f3
      exact ⟨⟨a0, a1, a2, l, A, cap, a4, a5⟩, by rw [e0, e1, e2, e3, e4, e5], ⟨g1, g2, g5, g3, g4, b4⟩⟩
theorem ops_in {v : Value} {d : DataW H} {ps : List MemPlace} {r : Reach} {b0 : Nat} (hv : Value.okWide Try.prog w r b0 22 v) (h : DataW.Trod enc Try.prog w base spare held 22 v d ps) :
    ∃ (A : Option Addr) (l : List Cl) (cap : Nat), v = .slice A l.length cap ∧ OpsAt w A l ∧ l.length ≤ maxLen := by
  obtain ⟨a, len, cap, rfl⟩ := okWide_slice Try.underlying22 hv
  obtain ⟨fuel, hf⟩ := h
  have hc : Try.prog.cellsOf 36 = 6 := by kernel_rfl
  rcases open_slice Try.underlying22 hf with ⟨h0, _⟩ | ⟨a', len', cap', m, n, D, Pl, hcs, hb, hl, hm, hmm, hx, hi⟩
  · have e : (Value.slice a len cap) = .slice none 0 0 := by simpa [Value.cells] using h0
    cases e
    exact ⟨none, [], 0, rfl, fun k hk => by simp at hk, by simp [maxLen]⟩
  · have e : (Value.slice a len cap) = .slice (some a') len' cap' := by simpa [Value.cells] using hcs
    cases e
    have hml : len ≤ m := by rw [hmm]; split <;> omega
    obtain ⟨l, hll, hp⟩ := choose_nat (P := fun i (x : Cl) => OpOk w x ∧ w.cell? (a'.add (i * 6)) = some (.int .i64 x.kind) ∧ w.cell? ((a'.add (i * 6)).add 1) = some (.int .i64 x.n) ∧ w.cell? ((a'.add (i * 6)).add 2) = some (.int .i64 x.at_) ∧ w.cell? ((a'.add (i * 6)).add 3) = some (.slice x.A x.d.length x.cap) ∧ w.cell? ((a'.add (i * 6)).add 4) = some (.int .u8 (x.v : Nat)) ∧ w.cell? ((a'.add (i * 6)).add 5) = some (.int .i64 x.many)) len (by
      intro i hil
      obtain ⟨cs', hcs', ht⟩ := hi i (by omega)
      rw [hc] at hcs'
      obtain ⟨it, rfl, hw⟩ := op_of ht
      obtain ⟨_, hcl, hat⟩ := World.cells?_some hcs'
      have h0 := hat 0 (by omega)
      have h1 := hat 1 (by omega)
      have h2 := hat 2 (by omega)
      have h3 := hat 3 (by omega)
      have h4 := hat 4 (by omega)
      have h5 := hat 5 (by omega)
      have e0 : (a'.add (i * 6)).add 0 = a'.add (i * 6) := by simp [Addr.add]
      rw [e0] at h0
      exact ⟨it, hw, h0, h1, h2, h3, h4, h5⟩)
    refine ⟨some a', l, cap, by rw [hll], fun k hk => ?_, by omega⟩
    obtain ⟨h6, h0, h1, h2, h3, h4, h5⟩ := hp k (by omega)
    exact ⟨a', rfl, ⟨h0, h1, h2, h3, h4, h5⟩, h6⟩
end

/-- Few enough calls. -/
structure Few (l : List Cl) : Prop where
  len : l.length ≤ 120
  each : ∀ k, k < l.length → (l.getD k default).d.length ≤ 60 ∧ (l.getD k default).many ≤ 300
end Go.Proofs.Ytinihggcibghaaa
