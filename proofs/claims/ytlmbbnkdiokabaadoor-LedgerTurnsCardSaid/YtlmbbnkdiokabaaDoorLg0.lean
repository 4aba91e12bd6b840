/-
  A home's ledger: plain, and in memory.
-/
import Derived.Test.YtlmbbnkdiokabaaDoorHeap
import Derived.Test.YtlmbbnkdiokabaaDoorKp
import Derived.Test.YtlmbbnkdiokabaaDoorSp0
import Derived.Test.YtlmbbnkdiokabaaDoorSp1
import Derived.Test.YtlmbbnkdiokabaaDoorMpv
import Derived.Lib.SlKeysI
namespace Go.Proofs.YtlmbbnkdiokabaaDoor
set_option maxRecDepth 100000
set_option linter.unusedSimpArgs false
open Go Go.RowKit Sp
open Go.Maps (Keyed IsMap)

namespace Lg
/-- A cell's entry. -/
structure En where
  r : Int
  g : Int
deriving DecidableEq
def e0 : En := ⟨-1, 0⟩
/-- A ledger. -/
structure S where
  h : Int
  R : Int
  C : Int
  E : Int → En
  Q : Int → List Wt
  T : Int → Bool
namespace S
def is (s : S) (c : Int) : Bool := decide (0 ≤ c) && decide (c < s.C) && decide (c % s.R = s.h)
def has (s : S) (r : Int) : Bool := decide (0 ≤ r) && decide (r < s.R)
def turn (s : S) (c : Int) (e : En) : S := { s with E := fun x => if x = c then e else s.E x }
def setQ (s : S) (c : Int) (l : List Wt) : S := { s with Q := fun x => if x = c then l else s.Q x }
def setT (s : S) (r : Int) (b : Bool) : S := { s with T := fun x => if x = r then b else s.T x }
end S
/-- What a ledger keeps. -/
structure Ok (s : S) : Prop where
  h0 : 0 ≤ s.h
  hR : s.h < s.R
  R1 : s.R ≤ 64
  C0 : 1 ≤ s.C
  C1 : s.C ≤ 1024
  out : ∀ c, s.is c = false → s.E c = e0 ∧ s.Q c = []
  q : ∀ c, Sp.Ok (s.Q c)
  qr : ∀ c, ∀ x ∈ s.Q c, s.has x.r = true ∧ x.r ≠ (s.E c).r ∧ 0 ≤ x.s ∧ x.s ≤ 18446744073709551615 ∧ 0 ≤ x.p ∧ x.p ≤ 15
  er : ∀ c, (s.E c).r = -1 ∨ s.has (s.E c).r = true
  eg : ∀ c, 0 ≤ (s.E c).g ∧ (s.E c).g ≤ 4294967295
end Lg
open Lg

/-- An entry as a value. -/
@[reducible] def ev (r g : Int) : Value := .agg #[.int .i64 r, .int .u32 g]
/-- A key. -/
def keyI (c : Int) : Lit := .int .i64 c
theorem keyI_inj {p q : Int} (h : keyI p = keyI q) : p = q := by unfold keyI at h; injection h
theorem keyI_lit (p : Int) : WideAt.IsKeyLit (keyI p) := by simp [keyI, WideAt.IsKeyLit]
theorem keyI_keyed : Keyed Tryd.prog 3 := Maps.int_keyed Tryd.underlying3
def I64 (c : Int) : Prop := -9223372036854775808 ≤ c ∧ c ≤ 9223372036854775807
theorem keyI_of {c : Int} (h : I64 c) : keyOf Tryd.prog 3 (.int .i64 c) = some (keyI c) := by
  refine Maps.keyOf_int_mk Tryd.underlying3 ?_
  have h1 : IntKind.i64.min = -9223372036854775808 := rfl
  have h2 : IntKind.i64.max = 9223372036854775807 := rfl
  simp only [Lit.wf, Bool.and_eq_true, decide_eq_true_eq, h1, h2]
  exact h

def entF (E : Int → En) (c : Int) : Option Value := if E c = e0 then none else some (ev (E c).r (E c).g)
def queF (P : Int → Option Nat) (c : Int) : Option Value := (P c).map fun o => .pointer (some ⟨o, 0, none⟩)
/-- What the variable atFirst holds. -/
def AF (w : World) : Prop := w.cell? ⟨0, 0, none⟩ = some (.int .i64 (-1)) ∧ w.cell? ⟨0, 1, none⟩ = some (.int .u32 0)
theorem AF.lt {w : World} (h : AF w) : 0 < w.heap.size := World.block_lt_of_cell? w _ h.1
theorem AF.kept {w w' : World} {X : Nat → Prop} (h : AF w) (hk : Kept X w w') (h0 : ¬ X 0) : AF w' := ⟨hk.cell h.1 h0, hk.cell h.2 h0⟩
def tc (T : Int → Bool) : List Value := (List.range 64).map fun i : Nat => .bool (T (i : Int))
def lc (s : S) (me mq : Nat) : List Value := [.int .i64 s.h, .int .i64 s.R, .int .i64 s.C, .map (some me), .map (some mq)] ++ tc s.T
theorem tc_length (T : Int → Bool) : (tc T).length = 64 := by simp [tc]
theorem tc_get (T : Int → Bool) {i : Nat} (h : i < 64) : (tc T)[i]? = some (.bool (T (i : Int))) := by simp [tc, h]

/-- A ledger in memory: its block, its two maps, the blocks of its queues; N bounds the maps' entries. -/
structure LedAt (w : World) (b me mq : Nat) (P : Int → Option Nat) (N : Nat) (s : S) : Prop where
  blk : w.heap[b]? = some (.cells (lc s me mq).toArray 88 (0, 0))
  ents : MapV w 3 keyI me N (entF s.E)
  ques : MapV w 3 keyI mq N (queF P)
  none_ : ∀ c, P c = none ↔ s.Q c = []
  some_ : ∀ c o, P c = some o → QAt w o (s.Q c)
  inj : ∀ c d o, P c = some o → P d = some o → c = d
  ne : me ≠ mq
  af : AF w
  ng : ∀ k, (k = b ∨ k = me ∨ k = mq ∨ ∃ c, P c = some k) → k ≠ 0
  ok : Lg.Ok s
/-- The blocks of a ledger. -/
def LX (b me mq : Nat) (P : Int → Option Nat) (k : Nat) : Prop := k = b ∨ k = me ∨ k = mq ∨ ∃ c, P c = some k
/-- A block's type. -/
def Typ (w : World) (k : Nat) (t : TypeId) : Prop := ∃ cur f, w.heap[k]? = some (.cells cur t f)
theorem Typ.eq {w : World} {k : Nat} {t u : TypeId} (h : Typ w k t) (h2 : Typ w k u) : t = u := by
  obtain ⟨c, f, h⟩ := h
  obtain ⟨c2, f2, h2⟩ := h2
  rw [h] at h2
  injection h2 with h2
  injection h2

theorem MapV.isMap {κ : Type} {w : World} {k : TypeId} {lit : κ → Lit} {m N : Nat} {f : κ → Option Value} (h : MapV w k lit m N f) : ∃ es cl, w.heap[m]? = some (.map es cl) := by
  obtain ⟨D, ⟨es, cl, hb, _⟩, _⟩ := h
  exact ⟨es, cl, hb⟩

namespace LedAt
variable {w w' : World} {b me mq N : Nat} {P : Int → Option Nat} {s : S} {X : Nat → Prop}
theorem lt (h : LedAt w b me mq P N s) {k : Nat} (hk : LX b me mq P k) : k < w.heap.size := by
  rcases hk with rfl | rfl | rfl | ⟨c, hc⟩
  · exact blk_lt h.blk
  · exact h.ents.lt
  · exact h.ques.lt
  · exact (h.some_ c k hc).lt
theorem typ (h : LedAt w b me mq P N s) {k : Nat} (hk : LX b me mq P k) {t : TypeId} (ht : Typ w k t) : t = 88 ∨ t = 134 := by
  rcases hk with rfl | rfl | rfl | ⟨c, hc⟩
  · exact .inl (ht.eq ⟨_, _, h.blk⟩)
  · obtain ⟨es, cl, e⟩ := h.ents.isMap
    obtain ⟨c, f, h2⟩ := ht
    rw [e] at h2; cases h2
  · obtain ⟨es, cl, e⟩ := h.ques.isMap
    obtain ⟨c, f, h2⟩ := ht
    rw [e] at h2; cases h2
  · exact .inr (ht.eq ⟨_, _, (h.some_ c k hc).2.2⟩)
theorem kept (h : LedAt w b me mq P N s) (hk : Kept X w w') (hX : ∀ k, LX b me mq P k → ¬ X k) (hg : ¬ X 0) : LedAt w' b me mq P N s :=
  ⟨(hk.block b (blk_lt h.blk) (hX b (.inl rfl))).trans h.blk, h.ents.kept hk (hX me (.inr (.inl rfl))), h.ques.kept hk (hX mq (.inr (.inr (.inl rfl)))), h.none_,
    fun c o e => (h.some_ c o e).kept hk (hX o (.inr (.inr (.inr ⟨c, e⟩)))), h.inj, h.ne, h.af.kept hk hg, h.ng, h.ok⟩
theorem below (h : LedAt w b me mq P N s) (hb : Below w.heap.size w w') : LedAt w' b me mq P N s := h.kept (Kept.of_below (X := fun _ => False) hb (Nat.le_refl _)) (fun _ _ => id) id
theorem b_me (h : LedAt w b me mq P N s) : b ≠ me := by
  rintro rfl
  obtain ⟨es, cl, e⟩ := h.ents.isMap
  rw [h.blk] at e; cases e
theorem b_mq (h : LedAt w b me mq P N s) : b ≠ mq := by
  rintro rfl
  obtain ⟨es, cl, e⟩ := h.ques.isMap
  rw [h.blk] at e; cases e
theorem p_ne (h : LedAt w b me mq P N s) {c : Int} {o : Nat} (hc : P c = some o) : o ≠ b ∧ o ≠ me ∧ o ≠ mq := by
  have hq := (h.some_ c o hc).2.2
  refine ⟨?_, ?_, ?_⟩ <;> rintro rfl
  · rw [h.blk] at hq
    injection hq with hq
    injection hq with _ hq _
    exact absurd hq (by decide)
  · obtain ⟨es, cl, e⟩ := h.ents.isMap
    rw [hq] at e; cases e
  · obtain ⟨es, cl, e⟩ := h.ques.isMap
    rw [hq] at e; cases e
/-- The five first cells. -/
theorem five (h : LedAt w b me mq P N s) : w.cell? ⟨b, 0, none⟩ = some (.int .i64 s.h) ∧ w.cell? ⟨b, 1, none⟩ = some (.int .i64 s.R) ∧ w.cell? ⟨b, 2, none⟩ = some (.int .i64 s.C) ∧ w.cell? ⟨b, 3, none⟩ = some (.map (some me)) ∧ w.cell? ⟨b, 4, none⟩ = some (.map (some mq)) := by
  refine ⟨?_, ?_, ?_, ?_, ?_⟩ <;> (rw [blk_cell h.blk]; simp [lc])
theorem told (h : LedAt w b me mq P N s) {i : Nat} (hi : i < 64) : w.cell? ⟨b, 5 + i, none⟩ = some (.bool (s.T (i : Int))) := by
  rw [blk_cell h.blk]
  simp only [lc, List.getElem?_toArray]
  rw [List.getElem?_append_right (by simp)]
  simp only [List.length_cons, List.length_nil]
  rw [show 5 + i - (0 + 1 + 1 + 1 + 1 + 1) = i by omega]
  exact tc_get _ hi
theorem free (h : LedAt w b me mq P N s) (j : Nat) : w.frozen? ⟨b, j, none⟩ = false := blk_free h.blk j
/-- Who waits for a cell. -/
theorem qp (h : LedAt w b me mq P N s) (c : Int) : QP w ((P c).map fun o => ⟨o, 0, none⟩) (s.Q c) := by
  cases hP : P c with
  | none => exact .inl ⟨rfl, (h.none_ c).1 hP⟩
  | some o => exact .inr ⟨o, rfl, h.some_ c o hP⟩
end LedAt

theorem zero_en (w : World) : (zeroValue 81).run Tryd.prog w = .ok (ev 0 0) w := by kernel_rfl
theorem zero_qp (w : World) : (zeroValue 117).run Tryd.prog w = .ok (.pointer none) w := by kernel_rfl

section
variable {w w' : World} {b me mq N : Nat} {P : Int → Option Nat} {s : S}
/-- e, there := l.entries[c] -/
theorem LedAt.lookE (h : LedAt w b me mq P N s) {c : Int} (hc : I64 c) :
    (Instr.lookup 84 (.map (some me)) (.int .i64 c) true).run Tryd.prog w = .ok (.tuple #[if s.E c = e0 then ev 0 0 else ev (s.E c).r (s.E c).g, .bool (decide (s.E c ≠ e0))]) w := by
  rw [h.ents.look keyI_keyed Tryd.underlying84 (zero_en w) (keyI_of hc)]
  unfold entF
  by_cases e : s.E c = e0
  · simp [e]
  · simp [e]
/-- l.queues[c] -/
theorem LedAt.lookQ (h : LedAt w b me mq P N s) {c : Int} (hc : I64 c) :
    (Instr.lookup 85 (.map (some mq)) (.int .i64 c) false).run Tryd.prog w = .ok (.pointer ((P c).map fun o => ⟨o, 0, none⟩)) w := by
  rw [h.ques.look1 keyI_keyed Tryd.underlying85 (zero_qp w) (keyI_of hc)]
  unfold queF
  cases P c <;> rfl
end

/-- Equality of entries. -/
theorem undE : Tryd.prog.underlying 81 = some (.struct (Tryd.prog.fieldsOf 81)) := by kernel_rfl
theorem eqEn (x0 x1 y0 y1 : Int) (w : World) :
    (Op.equalIn 10000 81 (.agg #[.int .i64 x0, .int .u32 x1]) (.agg #[.int .i64 y0, .int .u32 y1])).run Tryd.prog w = .ok (x0 == y0 && x1 == y1) w := by
  have hi : Tryd.prog.underlying 3 = some (.int .i64) := by kernel_rfl
  have hu : Tryd.prog.underlying 37 = some (.int .u32) := by kernel_rfl
  have h1 : ∀ (a b : Int) (w : World), (Op.equalIn 9999 3 (.int .i64 a) (.int .i64 b)).run Tryd.prog w = .ok (a == b) w := fun a b w => run_equalIn_int w 9998 _ _ _ a b hi
  have h2 : ∀ (a b : Int) (w : World), (Op.equalIn 9999 37 (.int .u32 a) (.int .u32 b)).run Tryd.prog w = .ok (a == b) w := fun a b w => run_equalIn_int w 9998 _ _ _ a b hu
  rw [run_equalIn_struct w 9999 _ _ _ undE (by kernel_rfl)]
  have hp : ∀ (t : TypeId), (∀ w, (isAgg t).run Tryd.prog w = .ok false w) → ∀ (xs : Array Value) (i : Nat) (v : Value) (w : World), xs[i]? = some v → (part t xs i).run Tryd.prog w = .ok v w := by
    intro t ht xs i v w h
    simp only [part, Sem.run_bind, ht, Result.andThen_ok, Bool.false_eq_true, if_false, h, Sem.run_pure]
  have ai : ∀ w, (isAgg 3).run Tryd.prog w = .ok false w := fun _ => by kernel_rfl
  have au : ∀ w, (isAgg 37).run Tryd.prog w = .ok false w := fun _ => by kernel_rfl
  have hf : (Tryd.prog.fieldsOf 81).toList.map (fun f => (decide (f.name = "_"), f.type, f.offset)) = [(false, 3, 0), (false, 37, 1)] := by kernel_rfl
  generalize (Tryd.prog.fieldsOf 81).toList = fs at *
  rcases fs with _ | ⟨f0, _ | ⟨f1, _ | ⟨f2, fs⟩⟩⟩ <;> simp only [List.map_nil, List.map_cons, List.cons.injEq, Prod.mk.injEq, reduceCtorEq, and_false, false_and, and_true, List.nil_eq, List.cons_ne_nil] at hf
  obtain ⟨⟨n0, t0, o0⟩, ⟨n1, t1, o1⟩⟩ := hf
  have m0 : f0.name ≠ "_" := by simpa using n0
  have m1 : f1.name ≠ "_" := by simpa using n1
  have p0 := fun w => hp _ ai #[.int .i64 x0, .int .u32 x1] 0 (.int .i64 x0) w rfl
  have q0 := fun w => hp _ ai #[.int .i64 y0, .int .u32 y1] 0 (.int .i64 y0) w rfl
  have p1 := fun w => hp _ au #[.int .i64 x0, .int .u32 x1] 1 (.int .u32 x1) w rfl
  have q1 := fun w => hp _ au #[.int .i64 y0, .int .u32 y1] 1 (.int .u32 y1) w rfl
  generalize (#[.int .i64 x0, .int .u32 x1] : Array Value) = XS at *
  generalize (#[.int .i64 y0, .int .u32 y1] : Array Value) = YS at *
  simp only [Op.eqFields, ne_eq, m0, m1, not_false_eq_true, if_true, t0, t1, o0, o1]
  cases e0 : (x0 == y0)
  · simp only [Sem.run_bind, p0, q0, Result.andThen_ok, h1, e0, Bool.not_false, if_true, Sem.run_pure, Bool.false_and]
  simp only [Sem.run_bind, p0, q0, Result.andThen_ok, h1, e0, Bool.not_true, Bool.false_eq_true, if_false, Bool.true_and]
  cases e1 : (x1 == y1)
  · simp only [Sem.run_bind, p1, q1, Result.andThen_ok, h2, e1, Bool.not_false, if_true, Sem.run_pure]
  simp only [Sem.run_bind, p1, q1, Result.andThen_ok, h2, e1, Bool.not_true, Bool.false_eq_true, if_false, Sem.run_pure]
end Go.Proofs.YtlmbbnkdiokabaaDoor
