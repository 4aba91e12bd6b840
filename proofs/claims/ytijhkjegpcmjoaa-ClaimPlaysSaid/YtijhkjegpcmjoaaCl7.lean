/-
  Load: what records say.
-/
import Derived.Test.YtijhkjegpcmjoaaCl5
import Derived.Test.YtijhkjegpcmjoaaCl6
import Derived.Laws.Bits64b
import Derived.Laws.Bits64
import Derived.Lib.EndianBits
import Derived.Deep.DeepCutAuto
namespace Go.Proofs.Ytijhkjegpcmjoaa
set_option maxRecDepth 100000
set_option linter.unusedSimpArgs false
open Go Go.RowKit Cl

theorem gen0 {w : World} {a : Addr} {cap : Nat} {b0 b1 b2 b3 : Int} (h0 : w.cell? a = some (.int .u8 b0)) (h1 : w.cell? ⟨a.block, a.off + 1, none⟩ = some (.int .u8 b1)) (h2 : w.cell? ⟨a.block, a.off + 2, none⟩ = some (.int .u8 b2)) (h3 : w.cell? ⟨a.block, a.off + 3, none⟩ = some (.int .u8 b3))
    (r0 : 0 ≤ b0 ∧ b0 ≤ 255) (r1 : 0 ≤ b1 ∧ b1 ≤ 255) (r2 : 0 ≤ b2 ∧ b2 ≤ 255) (r3 : 0 ≤ b3 ∧ b3 ≤ 255) :
    Calls Try.prog 36 #[.slice (some a) 4 cap] w fun e w' => e = .returned (.int .u32 (b0 * 16777216 + b1 * 65536 + b2 * 256 + b3)) ∧ ∃ k, w' = w.drewN k := by
  have z : w.drew.cell? a = some (.int .u8 b0) ∧ w.drew.cell? ⟨a.block, a.off + 1, none⟩ = some (.int .u8 b1) ∧ w.drew.cell? ⟨a.block, a.off + 2, none⟩ = some (.int .u8 b2) ∧ w.drew.cell? ⟨a.block, a.off + 3, none⟩ = some (.int .u8 b3) := ⟨h0, h1, h2, h3⟩
  clear h0 h1 h2 h3
  have w0 : IntKind.u32.wrap b0 = b0 := wraps_u32 _ (by omega) (by omega)
  have w1 : IntKind.u32.wrap b1 = b1 := wraps_u32 _ (by omega) (by omega)
  have w2 : IntKind.u32.wrap b2 = b2 := wraps_u32 _ (by omega) (by omega)
  have w3 : IntKind.u32.wrap b3 = b3 := wraps_u32 _ (by omega) (by omega)
  have w4 : IntKind.u32.wrap (b0 * 16777216) = b0 * 16777216 := wraps_u32 _ (by omega) (by omega)
  have w5 : IntKind.u32.wrap (b1 * 65536) = b1 * 65536 := wraps_u32 _ (by omega) (by omega)
  have w6 : IntKind.u32.wrap (b2 * 256) = b2 * 256 := wraps_u32 _ (by omega) (by omega)
  have o1 : bits BinOp.or IntKind.u32 (b0 * 16777216) (b1 * 65536) = b0 * 16777216 + b1 * 65536 := bits_join .u32 32 (by decide) wraps_u32 24 _ _ (by omega) (by omega) (by omega) (by omega) (by omega) (by omega)
  have o2 : bits BinOp.or IntKind.u32 (b0 * 16777216 + b1 * 65536) (b2 * 256) = b0 * 16777216 + b1 * 65536 + b2 * 256 := bits_join .u32 32 (by decide) wraps_u32 16 _ _ (by omega) (by omega) (by omega) (by omega) (by omega) (by omega)
  have o3 : bits BinOp.or IntKind.u32 (b0 * 16777216 + b1 * 65536 + b2 * 256) b3 = b0 * 16777216 + b1 * 65536 + b2 * 256 + b3 := bits_join .u32 32 (by decide) wraps_u32 8 _ _ (by omega) (by omega) (by omega) (by omega) (by omega) (by omega)
  go_enter Try.func36, Try.ntmps36
  go_wp2_with fail
  go_region_held3 (fun W' => W'.cell? a = some (.int .u8 b0) ∧ W'.cell? ⟨a.block, a.off + 1, none⟩ = some (.int .u8 b1) ∧ W'.cell? ⟨a.block, a.off + 2, none⟩ = some (.int .u8 b2) ∧ W'.cell? ⟨a.block, a.off + 3, none⟩ = some (.int .u8 b3)) (first | exact z) (fail)
  go_wp2
  go_ret
  exact ⟨rfl, 1, rfl⟩
/-- A thousand and twenty-four cells that were not met. -/
def f1024 : Array Value := Array.replicate 1024 (.bool false)
theorem Try.zero1024 (W : World) : (zeroValue 31).run Try.prog W = .ok (.agg f1024) W := by kernel_rfl

namespace Cl
/-- A record that comes in: its numbers, its bytes, and where these are. -/
structure Rc where
  k : Int
  n : Int
  d : List Int
  A : Option Addr
  cap : Nat
instance : Inhabited Rc := ⟨⟨0, 0, [], none, 0⟩⟩
/-- What is known while records are read: the claims, the last error, the cells that were met. -/
structure LS where
  s : List Cm
  e : Int
  m : List Int
def g4 (d : List Int) : Int := d.getD 0 0 * 16777216 + d.getD 1 0 * 65536 + d.getD 2 0 * 256 + d.getD 3 0
def recOk (r : Rc) : Bool := isC r.n && (decide (r.d.length = 0) || decide (r.d.length = 4))
def upd (x : LS) (r : Rc) : LS := ⟨if r.d.length = 4 then takeL x.s ⟨r.n, g4 r.d⟩ else x.s, if r.d.length = 4 then takeE x.s r.n else x.e, x.m ++ [r.n]⟩
def ld1 (x : LS) (r : Rc) : Option LS := if r.k ≠ 2 then some x else if recOk r && !decide (r.n ∈ x.m) then some (upd x r) else none
def ldF (l : List Rc) : Option LS := l.foldl (fun o r => o.bind (ld1 · r)) (some ⟨[], 0, []⟩)
/-- What Load answers: its error, and the claims. -/
def ldR (l : List Rc) : Int × List Cm := match ldF l with | none => (130, []) | some x => if x.e = 0 then (0, x.s) else (x.e, [])
theorem ldF_snoc (l : List Rc) (r : Rc) : ldF (l ++ [r]) = (ldF l).bind (ld1 · r) := by simp [ldF, List.foldl_append]
theorem ldF_none (l l' : List Rc) (h : ldF l = none) : ldF (l ++ l') = none := by
  unfold ldF at *
  rw [List.foldl_append, h]
  induction l' with
  | nil => rfl
  | cons r l' ih => exact ih
theorem ldF_bad {l : List Rc} {j : Nat} (hj : j < l.length) {x : LS} (h : ldF (l.take j) = some x) (hb : ld1 x (l.getD j default) = none) : ldF l = none := by
  have e : l = (l.take j ++ [l.getD j default]) ++ l.drop (j + 1) := by
    rw [List.append_assoc, List.singleton_append, show l.getD j default = l[j] by simp [List.getD, hj], List.getElem_cons_drop, List.take_append_drop]
  rw [e]
  apply ldF_none
  rw [ldF_snoc, h]
  exact hb
theorem ldF_step {l : List Rc} {j : Nat} (hj : j < l.length) {x y : LS} (h : ldF (l.take j) = some x) (hb : ld1 x (l.getD j default) = some y) : ldF (l.take (j + 1)) = some y := by
  rw [List.take_succ_eq_append_getElem hj, ldF_snoc, h, show l[j] = l.getD j default by simp [List.getD, hj]]
  exact hb
end Cl
/-- A record's bytes in memory. -/
def DOk (w : World) (r : Rc) : Prop := (∀ i, i < r.d.length → ∃ a, r.A = some a ∧ w.cell? (a.add i) = some (.int .u8 (r.d.getD i 0))) ∧ ∀ i, 0 ≤ r.d.getD i 0 ∧ r.d.getD i 0 ≤ 255
def RsAt (w : World) (A : Option Addr) (l : List Rc) : Prop := ∀ j, j < l.length → ∃ a, A = some a ∧ (w.cell? (a.add (j * 3)) = some (.int .i64 (l.getD j default).k) ∧ w.cell? ⟨(a.add (j * 3)).block, (a.add (j * 3)).off + 1, none⟩ = some (.int .i64 (l.getD j default).n) ∧ w.cell? ⟨(a.add (j * 3)).block, (a.add (j * 3)).off + 2, none⟩ = some (.slice (l.getD j default).A (l.getD j default).d.length (l.getD j default).cap)) ∧
  DOk w (l.getD j default)
theorem cell_below {w w' : World} {p : Addr} {v : Value} (h : w.cell? p = some v) (hb : Below w.heap.size w w') : w'.cell? p = some v :=
  (World.cell?_of_block (hb.block p.block (World.block_lt_of_cell? w _ h))).trans h
theorem DOk.below {w w' : World} {r : Rc} (h : DOk w r) (hb : Below w.heap.size w w') : DOk w' r := by
  refine ⟨fun i hi => ?_, h.2⟩
  obtain ⟨a, e, q⟩ := h.1 i hi
  exact ⟨a, e, cell_below q hb⟩
theorem RsAt.below {w w' : World} {A : Option Addr} {l : List Rc} (h : RsAt w A l) (hb : Below w.heap.size w w') : RsAt w' A l := by
  intro j hj
  obtain ⟨a, e, ⟨q0, q1, q2⟩, q3⟩ := h j hj
  exact ⟨a, e, ⟨cell_below q0 hb, cell_below q1 hb, cell_below q2 hb⟩, q3.below hb⟩
/-- Which cells were met. -/
def MetAt (w : World) (mb : Nat) (m : List Int) : Prop := ∃ cs : Array Value, w.heap[mb]? = some (.cells cs 31 (0, 0)) ∧ cs.size = 1024 ∧ ∀ j : Nat, j < 1024 → cs[j]? = some (.bool (decide ((j : Int) ∈ m)))
theorem MetAt.fresh (w : World) : MetAt (w.alloc (.cells f1024 31)) w.heap.size [] := by
  refine ⟨f1024, World.alloc_heap_new w _, by unfold f1024; simp, fun j hj => ?_⟩
  unfold f1024
  simp [hj]
theorem MetAt.below {w w' : World} {mb : Nat} {m : List Int} (h : MetAt w mb m) (hb : w'.heap[mb]? = w.heap[mb]?) : MetAt w' mb m := by
  obtain ⟨cs, h1, h2⟩ := h
  exact ⟨cs, hb.trans h1, h2⟩
theorem MetAt.cell {w : World} {mb : Nat} {m : List Int} (h : MetAt w mb m) {n : Nat} (hn : n < 1024) : w.cell? ⟨mb, n, none⟩ = some (.bool (decide ((n : Int) ∈ m))) ∧ w.frozen? ⟨mb, n, none⟩ = false := by
  obtain ⟨cs, h1, _, h2⟩ := h
  exact ⟨by rw [blk_cell h1]; exact h2 n hn, blk_free h1 n⟩
theorem MetAt.set {w : World} {mb : Nat} {m : List Int} (h : MetAt w mb m) {n : Nat} (hn : n < 1024) : MetAt (w.setCell ⟨mb, n, none⟩ (.bool true)) mb (m ++ [(n : Int)]) := by
  obtain ⟨cs, h1, h2, h3⟩ := h
  refine ⟨_, blk_set h1 n (.bool true), by simpa using h2, fun j hj => ?_⟩
  rw [Array.getElem?_setIfInBounds]
  by_cases e : n = j
  · subst e
    rw [if_pos rfl, if_pos (by omega)]
    simp
  · rw [if_neg e, h3 j hj]
    have : decide ((j : Int) ∈ m ++ [(n : Int)]) = decide ((j : Int) ∈ m) := by
      rw [decide_eq_decide, List.mem_append, List.mem_singleton]
      constructor
      · rintro (h | h)
        · exact h
        · omega
      · exact .inl
    rw [this]
theorem isRec_any (w : World) (k n : Int) (A : Option Addr) (L cap : Nat) :
    Calls Try.prog 35 #[.agg #[.int .i64 k, .int .i64 n, .slice A L cap]] w fun e w' => e = .returned (.bool (isC n && (decide (L = 0) || decide (L = 4)))) ∧ Below w.heap.size w w' := by
  have HI := Lib.hid (fun V => isC_any V n)
  have HB := Lib.hid (alloc_below w (.cells #[.int .i64 k, .int .i64 n, .slice A L cap] 49))
  obtain ⟨R, hR⟩ : ∃ R : Ending → World → Prop, R = fun e w' => e = .returned (.bool (isC n && (decide (L = 0) || decide (L = 4)))) ∧ Below w.heap.size w w' := ⟨_, rfl⟩
  have HR : Hid (∀ t w', (isC n && (decide (L = 0) || decide (L = 4))) = t → Below w.heap.size w w' → R (.returned (.bool t)) w') := by rw [hR]; exact fun t w' h h2 => ⟨by rw [h], h2⟩
  rw [← hR]
  clear hR
  cases hi : isC n with
  | false =>
    rw [hi] at HI
    have HF := Lib.hid (HR.out false _ (by rw [hi]; rfl) HB.out)
    clear HR hi
    go_enter Try.func35, Try.ntmps35
    go_wp2_with (go_at_call 29; refine (HI.out _).mono ?_; rintro e w9 ⟨rfl, rfl⟩)
    first | exact HF.out | (go_ret; exact HF.out)
  | true =>
    rw [hi] at HI
    by_cases h0 : L = 0
    · subst h0
      have HF := Lib.hid (HR.out true _ (by rw [hi]; rfl) HB.out)
      clear HR hi
      go_enter Try.func35, Try.ntmps35
      go_wp2_with (go_at_call 29; refine (HI.out _).mono ?_; rintro e w9 ⟨rfl, rfl⟩)
      first | exact HF.out | (go_ret; exact HF.out)
    · have d0 : ((L : Int) == 0) = false := by simp; omega
      by_cases h4 : L = 4
      · subst h4
        have HF := Lib.hid (HR.out true _ (by rw [hi]; rfl) HB.out)
        clear HR hi
        go_enter Try.func35, Try.ntmps35
        go_wp2_with (go_at_call 29; refine (HI.out _).mono ?_; rintro e w9 ⟨rfl, rfl⟩)
        first | exact HF.out | (go_ret; exact HF.out)
      · have HF := Lib.hid (HR.out false _ (by rw [hi, decide_eq_false h0, decide_eq_false h4]; rfl) HB.out)
        have d1 : ((L : Int) == 4) = false := by simp; omega
        clear HR hi
        go_enter Try.func35, Try.ntmps35
        go_wp2_with (go_at_call 29; refine (HI.out _).mono ?_; rintro e w9 ⟨rfl, rfl⟩)
        first | exact HF.out | (go_ret; exact HF.out)
end Go.Proofs.Ytijhkjegpcmjoaa
