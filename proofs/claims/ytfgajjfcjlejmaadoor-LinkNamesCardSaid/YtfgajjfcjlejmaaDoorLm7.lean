/- Joined texts: Lm6, Lm7. -/
import Derived.Test.YtfgajjfcjlejmaaDoorLm5

/-
  The chapter's example: what comes of each call, plain.
-/
namespace Go.Proofs.YtfgajjfcjlejmaaDoor
set_option maxRecDepth 100000
set_option linter.unusedSimpArgs false
open Go Go.RowKit Wr
attribute [local go_sem] Oper.semAt_some

namespace Lk
def sA2 : S := start { sA with sent := 1, opn := [freeM 7] } 0
def pS : Pkt := ⟨1, 2, 1, 5, 1, 0, freeM 7⟩
def sB2 : S := meetS sB 1 (freeM 7)
def pK : Pkt := ⟨2, 1, 5, 1, 0, 1, bareM 4⟩
def sA3 : S := stop { sA2 with opn := [] }
theorem al_send : mk sA2 1 (freeM 7) = pS := rfl
theorem al_te : takeE sB pS = true ∧ takeE sB2 pS = true ∧ takeE sA2 pK = true := by decide
theorem al_t : takeR sB 0 pS = ⟨sB2, [freeM 7], [pK], false⟩ := by
  unfold takeR
  rw [al_te.1]
  rfl
theorem al_u : takeR sB2 0 pS = ⟨sB2, [], [pK], false⟩ := by
  unfold takeR
  rw [al_te.2.1]
  rfl
theorem al_v : takeR sA2 0 pK = ⟨sA3, [], [], false⟩ := by
  unfold takeR
  rw [al_te.2.2]
  rfl
theorem fm_free (n : Nat) (hn : n < 1000) : Fm (freeM n) := by
  refine ⟨?_, by show (1 : Nat) < _; decide, by show (0 : Nat) < _; decide, fun c hc => (by cases hc), by show (0 : Nat) ≤ 16; decide⟩
  have h : (List.range 1000).all (fun n => okM (freeM n)) = true := by decide +kernel
  exact List.all_eq_true.1 h n (List.mem_range.2 hn)
theorem okA2 : Ok sA2 := by
  have h := okA.send 0 (m := freeM 7) (fm_free 7 (by decide)) (by decide)
  exact h
theorem okB2 : Ok sB2 := by
  have h := okB.take 0 (p := pS) (by decide) (by decide) (fun _ => fm_free 7 (by decide))
  rw [al_t] at h
  exact h
theorem okA3 : Ok sA3 := by
  have h := okA2.take 0 (p := pK) (by decide) (by decide) (fun _ => ⟨by decide, by decide, by decide, fun c hc => (by cases hc), by decide⟩)
  rw [al_v] at h
  exact h
end Lk
end Go.Proofs.YtfgajjfcjlejmaaDoor

/-
  The chapter's example: its calls as contracts.
-/
namespace Go.Proofs.YtfgajjfcjlejmaaDoor
set_option maxRecDepth 100000
set_option linter.unusedSimpArgs false
open Go Go.RowKit Wr
attribute [local go_sem] Oper.semAt_some

section
variable {w W W' : World} {T Sa Sb Sa' : Nat → Prop} {a b Na Nb : Nat} {sa sb : Lk.S}
/-- A block that is neither link's. -/
def Bx (W : World) (Sa Sb : Nat → Prop) (q : Nat) (C : Array Value) (t : TypeId) : Prop := W.heap[q]? = some (.cells C t (0, 0)) ∧ ¬ Sa q ∧ ¬ Sb q
theorem Bx.swap {q : Nat} {C : Array Value} {t : TypeId} (h : Bx W Sa Sb q C t) : Bx W Sb Sa q C t := ⟨h.1, h.2.2, h.2.1⟩
theorem Bx.below {q : Nat} {C : Array Value} {t : TypeId} (h : Bx W Sa Sb q C t) (hb : Below W.heap.size W W') : Bx W' Sa Sb q C t := ⟨(hb.block _ (blk_lt h.1)).trans h.1, h.2⟩
theorem Bx.step {q : Nat} {C : Array Value} {t : TypeId} (h : Bx W Sa Sb q C t) (hk : Kept Sa W W') (hS' : ∀ k, Sa' k → Sa k ∨ W.heap.size ≤ k) : Bx W' Sa' Sb q C t := by
  have hl := blk_lt h.1
  exact ⟨(hk.block _ hl h.2.1).trans h.1, fun hs => (hS' q hs).elim h.2.1 (fun h => by omega), h.2.2⟩
theorem Bx.new (h : Pair w W T Sa Sb a b Na Nb sa sb) (C : Array Value) (t : TypeId) : Bx (W.alloc (.cells C t)) Sa Sb W.heap.size C t := ⟨World.alloc_heap_new W _, h.out (Nat.le_refl _)⟩
/-- Messages told that are neither link's. -/
def Mr (W : World) (T Sa Sb : Nat → Prop) (v : Value) (L : List Msg) : Prop := MsgsR W T 0 v L ∧ (∀ g, v.ownBlock = some g → ¬ Sa g) ∧ ∀ g, v.ownBlock = some g → ¬ Sb g
theorem Mr.swap {v : Value} {L : List Msg} (h : Mr W T Sa Sb v L) : Mr W T Sb Sa v L := ⟨h.1, h.2.2, h.2.1⟩
theorem Mr.below {v : Value} {L : List Msg} (h : Mr W T Sa Sb v L) (hb : Below W.heap.size W W') : Mr W' T Sa Sb v L := ⟨h.1.below hb, h.2⟩
theorem Mr.step {v : Value} {L : List Msg} (h : Mr W T Sa Sb v L) (hk : Kept Sa W W') (hst : ∀ k, Sa k → T k) (hS' : ∀ k, Sa' k → Sa k ∨ W.heap.size ≤ k) : Mr W' (fun k => T k ∨ Sa' k) Sa' Sb v L := by
  obtain ⟨h1, h2⟩ := h.1.side hk hst hS' h.2.1
  exact ⟨h1, h2, h.2.2⟩
/-- A packet told that is neither link's. -/
def Rw (W : World) (T Sa Sb : Nat → Prop) (g : Nat) (p : Pkt) (A : Option Addr) (c : Nat) : Prop := Row W T Sa g p A c ∧ ¬ Sb g
theorem Rw.swap {g : Nat} {p : Pkt} {A : Option Addr} {c : Nat} (h : Rw W T Sa Sb g p A c) : Rw W T Sb Sa g p A c := ⟨⟨h.1.cells, h.1.cl, h.2⟩, h.1.out⟩
theorem Rw.below {g : Nat} {p : Pkt} {A : Option Addr} {c : Nat} (h : Rw W T Sa Sb g p A c) (hb : Below W.heap.size W W') : Rw W' T Sa Sb g p A c := ⟨h.1.below hb, h.2⟩
theorem Rw.step {g : Nat} {p : Pkt} {A : Option Addr} {c : Nat} (h : Rw W T Sa Sb g p A c) (hk : Kept Sa W W') (hst : ∀ k, Sa k → T k) (hS' : ∀ k, Sa' k → Sa k ∨ W.heap.size ≤ k) : Rw W' (fun k => T k ∨ Sa' k) Sa' Sb g p A c := ⟨h.1.side hk hst hS', h.2⟩
/-- How link a has turned. -/
structure Trn (W W' : World) (Sa Sa' : Nat → Prop) : Prop where
  kp : Kept Sa W W'
  fr : ∀ k, Sa' k → Sa k ∨ W.heap.size ≤ k
end

@[reducible] def frV (n : Int) : Value := .agg #[.int .i64 3, .int .i64 n, .int .u32 1, .int .u64 0, .int .i64 0, .int .i64 0, .int .i64 0, .int .i64 0, .slice none 0 0]
@[reducible] def pSv (A : Option Addr) (c : Nat) : Value := .agg #[.int .i64 1, .int .i64 2, .int .u32 1, .int .u32 5, .int .u32 1, .int .u32 0, .int .i64 3, .int .i64 7, .int .u32 1, .int .u64 0, .int .i64 0, .int .i64 0, .int .i64 0, .int .i64 0, .slice A 0 c]
@[reducible] def pKv (A : Option Addr) (c : Nat) : Value := .agg #[.int .i64 2, .int .i64 1, .int .u32 5, .int .u32 1, .int .u32 0, .int .u32 1, .int .i64 4, .int .i64 0, .int .u32 0, .int .u64 0, .int .i64 0, .int .i64 0, .int .i64 0, .int .i64 0, .slice A 0 c]
section
variable {w W : World} {T Sa Sb : Nat → Prop} {a b : Nat}
theorem al_free (W : World) (n : Int) : Calls Tryd.prog 27 #[.int .i64 n] W fun e w' => e = .returned (frV n) ∧ Below W.heap.size W w' := free_any W n
theorem al_send (hL : Lay w) (h : Pair w W T Sa Sb a b 1 1 Lk.sA Lk.sB) : Calls Tryd.prog 14 #[.pointer (some ⟨a, 0, none⟩), .int .u64 0, frV 7] W fun e w' => ∃ A c, e = .returned (.tuple #[pSv A c, .int .i64 0]) ∧ ∃ Sa', Trn W w' Sa Sa' ∧ Pair w w' (fun k => T k ∨ Sa' k) Sa' Sb a b 1 1 Lk.sA2 Lk.sB ∧ ClT w' (fun k => T k ∨ Sa' k) A [] c := by
  refine (send_off h.la Lk.okA (hL.below h.bl).tab (n := 0) (Nat.zero_le _) (freeM 7) (ClT.none W T) (by decide) (by decide) (Lk.fm_free 7 (by decide)).1 (by decide) (by decide) (by decide) (by decide) rfl).mono ?_
  rintro e w' ⟨A, c, rfl, hk, Sa', h1, h2, h3, h4⟩
  exact ⟨A, c, rfl, Sa', ⟨hk, h3⟩, h.step hk h1 h3, h4⟩
theorem al_take1 (hL : Lay w) (h : Pair w W T Sa Sb a b 1 1 Lk.sA2 Lk.sB) {A : Option Addr} {c : Nat} (hc : ClT W T A [] c) : Calls Tryd.prog 17 #[.pointer (some ⟨b, 0, none⟩), .int .u64 0, pSv A c] W fun e w' => ∃ Au cu g c2 A2 k2, e = .returned (.tuple #[.agg #[.slice Au 1 cu, .slice (some ⟨g, 0, none⟩) 1 c2, .bool false], .int .i64 0]) ∧ ∃ Sb', Trn W w' Sb Sb' ∧ Pair w w' (fun k => T k ∨ Sb' k) Sa Sb' a b 1 2 Lk.sA2 Lk.sB2 ∧ ClT w' (fun k => T k ∨ Sb' k) A [] c ∧ Mr w' (fun k => T k ∨ Sb' k) Sa Sb' (.slice Au 1 cu) [freeM 7] ∧ Rw w' (fun k => T k ∨ Sb' k) Sa Sb' g Lk.pK A2 k2 := by
  have hLW := hL.below h.bl
  have hd := hL.tz.lt
  refine (take_any (p := Lk.pS) (n := 0) ⟨h.lb, Lk.okB, hLW.tab, hLW.tz, fun ht => by have := h.ge _ ht; omega, Nat.zero_le _, hc, by decide, by decide, by decide, by decide, by decide, by decide⟩).mono ?_
  rw [Lk.al_t, Lk.al_te.1]
  rintro e w' ⟨uv, bv, rfl, hk, Sb', h1, h2, h3, h4, h5, h6, h7⟩
  obtain ⟨Au, cu, rfl⟩ := h4.shape
  obtain ⟨g, c2, A2, k2, rfl, r1, r2, r3⟩ := h5.one
  refine ⟨Au, cu, g, c2, A2, k2, rfl, Sb', ⟨hk, h3⟩, (h.swap.step hk h1 h3).swap, hc.beside hk h.lb.st h3, ⟨?_, fun g hg => (h.out (h4.blk hg).1).1, h6⟩, ⟨r1, r2, (h.out r3).1⟩, h7 g rfl⟩
  obtain ⟨E, m1, m2, m3⟩ := h4
  exact ⟨E, m1, rowB m2 (Nat.zero_le _), m3⟩
theorem al_take2 (hL : Lay w) (h : Pair w W T Sa Sb a b 1 2 Lk.sA2 Lk.sB2) {A : Option Addr} {c : Nat} (hc : ClT W T A [] c) : Calls Tryd.prog 17 #[.pointer (some ⟨b, 0, none⟩), .int .u64 0, pSv A c] W fun e w' => ∃ Au cu Ab cb, e = .returned (.tuple #[.agg #[.slice Au 0 cu, .slice Ab 1 cb, .bool false], .int .i64 0]) ∧ ∃ Sb', Trn W w' Sb Sb' ∧ Pair w w' (fun k => T k ∨ Sb' k) Sa Sb' a b 1 3 Lk.sA2 Lk.sB2 := by
  have hLW := hL.below h.bl
  have hd := hL.tz.lt
  refine (take_any (p := Lk.pS) (n := 0) ⟨h.lb, Lk.okB2, hLW.tab, hLW.tz, fun ht => by have := h.ge _ ht; omega, Nat.zero_le _, hc, by decide, by decide, by decide, by decide, by decide, by decide⟩).mono ?_
  rw [Lk.al_u, Lk.al_te.2.1]
  rintro e w' ⟨uv, bv, rfl, hk, Sb', h1, h2, h3, h4, h5, h6, h7⟩
  obtain ⟨Au, cu, rfl⟩ := h4.none_
  obtain ⟨Ab, cb, rfl⟩ := h5.shape
  exact ⟨Au, cu, Ab, cb, rfl, Sb', ⟨hk, h3⟩, (h.swap.step hk h1 h3).swap⟩
theorem al_take3 (hL : Lay w) (h : Pair w W T Sa Sb a b 1 3 Lk.sA2 Lk.sB2) {A : Option Addr} {c : Nat} (hc : ClT W T A [] c) : Calls Tryd.prog 17 #[.pointer (some ⟨a, 0, none⟩), .int .u64 0, pKv A c] W fun e w' => ∃ Au cu Ab cb, e = .returned (.tuple #[.agg #[.slice Au 0 cu, .slice Ab 0 cb, .bool false], .int .i64 0]) ∧ ∃ Sa', Trn W w' Sa Sa' ∧ Pair w w' (fun k => T k ∨ Sa' k) Sa' Sb a b 2 3 Lk.sA3 Lk.sB2 := by
  have hLW := hL.below h.bl
  have hd := hL.tz.lt
  refine (take_any (p := Lk.pK) (n := 0) ⟨h.la, Lk.okA2, hLW.tab, hLW.tz, fun ht => by have := h.ge _ ht; omega, Nat.zero_le _, hc, by decide, by decide, by decide, by decide, by decide, by decide⟩).mono ?_
  rw [Lk.al_v, Lk.al_te.2.2]
  rintro e w' ⟨uv, bv, rfl, hk, Sa', h1, h2, h3, h4, h5, h6, h7⟩
  obtain ⟨Au, cu, rfl⟩ := h4.none_
  obtain ⟨Ab, cb, rfl⟩ := h5.none_
  exact ⟨Au, cu, Ab, cb, rfl, Sa', ⟨hk, h3⟩, h.step hk h1 h3⟩
end
end Go.Proofs.YtfgajjfcjlejmaaDoor
