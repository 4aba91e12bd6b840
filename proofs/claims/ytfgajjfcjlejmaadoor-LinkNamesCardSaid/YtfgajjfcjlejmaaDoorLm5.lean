/- Joined texts: Lm3, Lm4, Lm5. -/
import Derived.Test.YtfgajjfcjlejmaaDoorLm2

/-
  The chapter's two links.
-/
namespace Go.Proofs.YtfgajjfcjlejmaaDoor
set_option maxRecDepth 100000
set_option linter.unusedSimpArgs false
open Go Go.RowKit Wr
attribute [local go_sem] Oper.semAt_some

namespace Lk
def sA0 : S := newS 1 2 1 4 16
def sA1 : S := start sA0 0
def sA : S := { sA0 with kn := 5 }
def sB0 : S := newS 2 1 5 4 16
def sB : S := { sB0 with kn := 1 }
def pA : Pkt := ⟨1, 2, 1, 0, 0, 0, bareM 9⟩
def pB : Pkt := ⟨2, 1, 5, 1, 0, 0, bareM 9⟩
theorem okA0 : Ok sA0 := Ok.new (by decide) (by decide)
theorem okB0 : Ok sB0 := Ok.new (by decide) (by decide)
theorem tw_open : openS sA0 0 = sA1 ∧ openL sA0 = [pA] := ⟨rfl, rfl⟩
theorem tw_te : takeE sB0 pA = true ∧ takeE sA1 pB = true := by decide
theorem tw_tb : takeR sB0 0 pA = ⟨sB, [], [pB], true⟩ := by
  unfold takeR
  rw [tw_te.1]
  rfl
theorem tw_ta : takeR sA1 0 pB = ⟨sA, [], [], true⟩ := by
  unfold takeR
  rw [tw_te.2]
  rfl
theorem okA1 : Ok sA1 := okA0.start 0
theorem okA : Ok sA := by
  have h := okA1.take 0 (p := pB) (by decide) (by decide) (fun _ => ⟨by decide, by decide, by decide, fun c hc => (by cases hc), by decide⟩)
  rw [tw_ta] at h
  exact h
theorem okB : Ok sB := by
  have h := okB0.take 0 (p := pA) (by decide) (by decide) (fun _ => ⟨by decide, by decide, by decide, fun c hc => (by cases hc), by decide⟩)
  rw [tw_tb] at h
  exact h
end Lk

/-- A told packet's cells; its claims; its block is none of S. -/
structure Row (W : World) (T S : Nat → Prop) (g : Nat) (p : Pkt) (A : Option Addr) (c : Nat) : Prop where
  cells : PkCells W g 0 p A c
  cl : ClT W T A p.msg.claims c
  out : ¬ S g
theorem PkCells.fifteen {W : World} {g : Nat} {p : Pkt} {A : Option Addr} {c : Nat} (h : PkCells W g 0 p A c) : W.cell? ⟨g, 0, none⟩ = some (.int .i64 p.from_) ∧ W.cell? ⟨g, 1, none⟩ = some (.int .i64 p.to_) ∧ W.cell? ⟨g, 2, none⟩ = some (.int .u32 (p.fe : Nat)) ∧ W.cell? ⟨g, 3, none⟩ = some (.int .u32 (p.te : Nat)) ∧ W.cell? ⟨g, 4, none⟩ = some (.int .u32 (p.seq : Nat)) ∧ W.cell? ⟨g, 5, none⟩ = some (.int .u32 (p.met : Nat)) ∧ W.cell? ⟨g, 6, none⟩ = some (.int .i64 p.msg.kind) ∧ W.cell? ⟨g, 7, none⟩ = some (.int .i64 p.msg.cell) ∧ W.cell? ⟨g, 8, none⟩ = some (.int .u32 (p.msg.gen : Nat)) ∧ W.cell? ⟨g, 9, none⟩ = some (.int .u64 (p.msg.stamp : Nat)) ∧ W.cell? ⟨g, 10, none⟩ = some (.int .i64 p.msg.prio) ∧ W.cell? ⟨g, 11, none⟩ = some (.int .i64 p.msg.hops) ∧ W.cell? ⟨g, 12, none⟩ = some (.int .i64 p.msg.origin) ∧ W.cell? ⟨g, 13, none⟩ = some (.int .i64 p.msg.other) ∧ W.cell? ⟨g, 14, none⟩ = some (.slice A p.msg.claims.length c) := by
  refine ⟨?_, ?_, ?_, ?_, ?_, ?_, ?_, ?_, ?_, ?_, ?_, ?_, ?_, ?_, ?_⟩
  · exact h 0 _ rfl
  · exact h 1 _ rfl
  · exact h 2 _ rfl
  · exact h 3 _ rfl
  · exact h 4 _ rfl
  · exact h 5 _ rfl
  · exact h 6 _ rfl
  · exact h 7 _ rfl
  · exact h 8 _ rfl
  · exact h 9 _ rfl
  · exact h 10 _ rfl
  · exact h 11 _ rfl
  · exact h 12 _ rfl
  · exact h 13 _ rfl
  · exact h 14 _ rfl
theorem PkCells.kept {W W' : World} {X : Nat → Prop} {g i : Nat} {p : Pkt} {A : Option Addr} {c : Nat} (h : PkCells W g i p A c) (hk : Kept X W W') (hg : ¬ X g) : PkCells W' g i p A c :=
  fun j u hu => hk.cell (h j u hu) (by rw [ab]; exact hg)
theorem Row.side {W W' : World} {T S S' : Nat → Prop} {g : Nat} {p : Pkt} {A : Option Addr} {c : Nat} (h : Row W T S g p A c) (hk : Kept S W W') (hst : ∀ k, S k → T k) (hS' : ∀ k, S' k → S k ∨ W.heap.size ≤ k) : Row W' (fun k => T k ∨ S' k) S' g p A c := by
  refine ⟨h.cells.kept hk h.out, h.cl.beside hk hst hS', fun hs => ?_⟩
  have hl : g < W.heap.size := by
    have := World.block_lt_of_cell? W _ (h.cells 0 _ rfl)
    rwa [ab] at this
  rcases hS' g hs with h1 | h1
  · exact h.out h1
  · omega
theorem Row.below {W W' : World} {T S : Nat → Prop} {g : Nat} {p : Pkt} {A : Option Addr} {c : Nat} (h : Row W T S g p A c) (hb : Below W.heap.size W W') : Row W' T S g p A c :=
  ⟨h.cells.kept (X := fun _ => False) (Kept.of_below hb (Nat.le_refl _)) id, h.cl.below hb, h.out⟩
/-- Two links beside one another. -/
structure Pair (w W : World) (T Sa Sb : Nat → Prop) (a b Na Nb : Nat) (sa sb : Lk.S) : Prop where
  la : LnkAt W T Sa a Na sa
  lb : LnkAt W T Sb b Nb sb
  d : ∀ k, Sb k → ¬ Sa k
  ge : ∀ k, T k → w.heap.size ≤ k
  bl : Below w.heap.size w W
section
variable {w W W' : World} {T Sa Sb : Nat → Prop} {a b Na Nb N : Nat} {sa sb s' : Lk.S}
theorem Pair.swap (h : Pair w W T Sa Sb a b Na Nb sa sb) : Pair w W T Sb Sa b a Nb Na sb sa := ⟨h.lb, h.la, fun k h1 h2 => h.d k h2 h1, h.ge, h.bl⟩
theorem Pair.below (h : Pair w W T Sa Sb a b Na Nb sa sb) (hb : Below W.heap.size W W') : Pair w W' T Sa Sb a b Na Nb sa sb := ⟨h.la.below hb, h.lb.below hb, h.d, h.ge, h.bl.trans (hb.mono h.bl.size)⟩
theorem Pair.step (h : Pair w W T Sa Sb a b Na Nb sa sb) {Sa' : Nat → Prop} (hk : Kept Sa W W') (hl : LnkAt W' (fun k => T k ∨ Sa' k) Sa' a N s') (hS' : ∀ k, Sa' k → Sa k ∨ W.heap.size ≤ k) : Pair w W' (fun k => T k ∨ Sa' k) Sa' Sb a b N Nb s' sb := by
  obtain ⟨h1, h2⟩ := h.lb.side hk h.la.st h.d hS' (fun k hk => hl.lt k (.inr hk))
  have hz := h.bl.size
  refine ⟨hl, h1, h2, fun k hk => ?_, h.bl.trans (hk.below (fun k hk => h.ge k (h.la.st k hk)) hz)⟩
  rcases hk with hk | hk
  · exact h.ge k hk
  · rcases hS' k hk with hk | hk
    · exact h.ge k (h.la.st k hk)
    · omega
/-- The other's blocks lie below what is new. -/
theorem Pair.out (h : Pair w W T Sa Sb a b Na Nb sa sb) {g : Nat} (hg : W.heap.size ≤ g) : ¬ Sa g ∧ ¬ Sb g :=
  ⟨fun hs => by have := h.la.lt g (h.la.st g hs); omega, fun hs => by have := h.lb.lt g (h.lb.st g hs); omega⟩
theorem PktsR.one {W : World} {T : Nat → Prop} {B : Nat} {v : Value} {p : Pkt} (h : PktsR W T B v [p]) : ∃ g cap A c, v = .slice (some ⟨g, 0, none⟩) 1 cap ∧ PkCells W g 0 p A c ∧ ClT W T A p.msg.claims c ∧ B ≤ g := by
  obtain ⟨g, cap, A, c, e, h1, h2⟩ := h.get (k := 0) (by simp)
  refine ⟨g, cap, A, c, e, ?_, h2, (h.blk (g := g) (by rw [e]; rfl)).1⟩
  rwa [Nat.zero_mul] at h1
end
end Go.Proofs.YtfgajjfcjlejmaaDoor

/-
  The chapter's two links are made.
-/
namespace Go.Proofs.YtfgajjfcjlejmaaDoor
set_option maxRecDepth 100000
set_option linter.unusedSimpArgs false
open Go Go.RowKit Wr
attribute [local go_sem] Oper.semAt_some

@[reducible] def pAv (A : Option Addr) (c : Nat) : Value := .agg #[.int .i64 1, .int .i64 2, .int .u32 1, .int .u32 0, .int .u32 0, .int .u32 0, .int .i64 9, .int .i64 0, .int .u32 0, .int .u64 0, .int .i64 0, .int .i64 0, .int .i64 0, .int .i64 0, .slice A 0 c]
@[reducible] def pBv (A : Option Addr) (c : Nat) : Value := .agg #[.int .i64 2, .int .i64 1, .int .u32 5, .int .u32 1, .int .u32 0, .int .u32 0, .int .i64 9, .int .i64 0, .int .u32 0, .int .u64 0, .int .i64 0, .int .i64 0, .int .i64 0, .int .i64 0, .slice A 0 c]
/-- What the laws need of memory: wire's tables and the table of bits. -/
structure Lay (w : World) : Prop where
  tab : Tab w
  tz : TabZ w
theorem Lay.below {w w' : World} (h : Lay w) (hb : Below w.heap.size w w') : Lay w' := ⟨h.tab.below hb, h.tz.kept (X := fun _ => False) (Kept.of_below hb (Nat.le_refl _)) id⟩
section
variable {w W : World} {T Sa Sb : Nat → Prop} {a b Na Nb : Nat} {sa sb : Lk.S}
theorem two_rule (W : World) : Calls Tryd.prog 26 #[] W fun e w' => e = .returned (.agg #[.int .u64 4, .int .u64 16]) ∧ Below W.heap.size W w' := rule_any W
/-- Both are made. -/
theorem two_newA (W : World) (hb : Below w.heap.size w W) : Calls Tryd.prog 9 #[.int .i64 1, .int .i64 2, .int .u32 1, .agg #[.int .u64 4, .int .u64 16]] W fun e w' => ∃ a, e = .returned (.tuple #[.pointer (some ⟨a, 0, none⟩), .int .i64 0]) ∧ ∃ Sa : Nat → Prop, LnkAt w' Sa Sa a 0 Lk.sA0 ∧ (∀ k, Sa k → w.heap.size ≤ k) ∧ Below w.heap.size w w' := by
  refine (new_ok W (self := 1) (peer := 2) (ep := 1) (b := 4) (c := 16) rfl rfl).mono ?_
  rintro e w' ⟨o, m, rfl, h1, h2, h3, h4⟩
  have hz := hb.size
  have h5 := h4 (fun _ => False) (fun _ h => h.elim)
  refine ⟨o, rfl, fun k => k = o ∨ k = m, h5.more (fun k _ h => .inr h) (fun _ h => h) (fun k h => h5.lt k (.inr h)), fun k hk => ?_, hb.trans (h1.mono hz)⟩
  rcases hk with rfl | rfl <;> omega
theorem two_newB (W : World) (hb : Below w.heap.size w W) (ha : LnkAt W Sa Sa a 0 Lk.sA0) (hge : ∀ k, Sa k → w.heap.size ≤ k) : Calls Tryd.prog 9 #[.int .i64 2, .int .i64 1, .int .u32 5, .agg #[.int .u64 4, .int .u64 16]] W fun e w' => ∃ b, e = .returned (.tuple #[.pointer (some ⟨b, 0, none⟩), .int .i64 0]) ∧ ∃ T Sb, Pair w w' T Sa Sb a b 0 0 Lk.sA0 Lk.sB0 := by
  refine (new_ok W (self := 2) (peer := 1) (ep := 5) (b := 4) (c := 16) rfl rfl).mono ?_
  rintro e w' ⟨o, m, rfl, h1, h2, h3, h4⟩
  have hz := hb.size
  have hlt := fun k hk => ha.lt k hk
  have h5 := h4 Sa hlt
  refine ⟨o, rfl, fun k => Sa k ∨ (k = o ∨ k = m), fun k => k = o ∨ k = m, ha.grow h1 (fun k hk h => ?_) (fun k h => .inl h) (fun k h => h5.lt k h), h5, fun k hk hs => ?_, fun k hk => ?_, hb.trans (h1.mono hz)⟩
  · rcases h with h | rfl | rfl
    · exact h
    · omega
    · omega
  · have := hlt k hs
    rcases hk with rfl | rfl <;> omega
  · rcases hk with h | rfl | rfl
    · exact hge k h
    · omega
    · omega
theorem two_open (h : Pair w W T Sa Sb a b 0 0 Lk.sA0 Lk.sB0) : Calls Tryd.prog 12 #[.pointer (some ⟨a, 0, none⟩), .int .u64 0] W fun e w' => ∃ g cap A c, e = .returned (.slice (some ⟨g, 0, none⟩) 1 cap) ∧ ∃ T' Sa', Pair w w' T' Sa' Sb a b 0 0 Lk.sA1 Lk.sB0 ∧ Row w' T' Sb g Lk.pA A c := by
  refine (open_any h.la Lk.okA0 (n := 0) (Nat.zero_le _)).mono ?_
  rintro e w' ⟨v, rfl, hk, Sa', h1, h2, h3, h4⟩
  rw [Lk.tw_open.1] at h1
  rw [Lk.tw_open.2] at h4
  obtain ⟨g, cap, A, c, rfl, r1, r2, r3⟩ := h4.one
  exact ⟨g, cap, A, c, rfl, _, Sa', h.step hk h1 h3, r1, r2, (h.out r3).2⟩
theorem PktsR.none_ {W : World} {T : Nat → Prop} {B : Nat} {v : Value} (h : PktsR W T B v []) : ∃ A cap, v = .slice A 0 cap := h.shape
theorem MsgsR.none_ {W : World} {T : Nat → Prop} {B : Nat} {v : Value} (h : MsgsR W T B v []) : ∃ A cap, v = .slice A 0 cap := h.shape
theorem two_takeB (hL : Lay w) (h : Pair w W T Sa Sb a b 0 0 Lk.sA1 Lk.sB0) {g : Nat} {A : Option Addr} {c : Nat} (hr : Row W T Sb g Lk.pA A c) : Calls Tryd.prog 17 #[.pointer (some ⟨b, 0, none⟩), .int .u64 0, pAv A c] W fun e w' => ∃ Au cu g2 c2 A2 k2, e = .returned (.tuple #[.agg #[.slice Au 0 cu, .slice (some ⟨g2, 0, none⟩) 1 c2, .bool true], .int .i64 0]) ∧ ∃ T' Sb', Pair w w' T' Sa Sb' a b 0 1 Lk.sA1 Lk.sB ∧ PkCells w' g 0 Lk.pA A c ∧ Row w' T' Sa g2 Lk.pB A2 k2 := by
  have hLW := hL.below h.bl
  have hd := hL.tz.lt
  refine (take_any (p := Lk.pA) (n := 0) ⟨h.lb, Lk.okB0, hLW.tab, hLW.tz, fun ht => by have := h.ge _ ht; omega, Nat.zero_le _, hr.cl, by decide, by decide, by decide, by decide, by decide, by decide⟩).mono ?_
  rw [Lk.tw_tb, Lk.tw_te.1]
  rintro e w' ⟨uv, bv, rfl, hk, Sb', h1, h2, h3, h4, h5, h6, h7⟩
  obtain ⟨Au, cu, rfl⟩ := h4.none_
  obtain ⟨g2, c2, A2, k2, rfl, r1, r2, r3⟩ := h5.one
  exact ⟨Au, cu, g2, c2, A2, k2, rfl, _, Sb', (h.swap.step hk h1 h3).swap, hr.cells.kept hk hr.out, r1, r2, (h.out r3).1⟩
theorem two_takeA (hL : Lay w) (h : Pair w W T Sa Sb a b 0 1 Lk.sA1 Lk.sB) {g : Nat} {A : Option Addr} {c : Nat} (hr : Row W T Sa g Lk.pB A c) : Calls Tryd.prog 17 #[.pointer (some ⟨a, 0, none⟩), .int .u64 0, pBv A c] W fun e w' => ∃ Au cu A2 k2, e = .returned (.tuple #[.agg #[.slice Au 0 cu, .slice A2 0 k2, .bool true], .int .i64 0]) ∧ Kept Sa W w' ∧ ∃ T' Sa', Pair w w' T' Sa' Sb a b 1 1 Lk.sA Lk.sB ∧ PkCells w' g 0 Lk.pB A c := by
  have hLW := hL.below h.bl
  have hd := hL.tz.lt
  refine (take_any (p := Lk.pB) (n := 0) ⟨h.la, Lk.okA1, hLW.tab, hLW.tz, fun ht => by have := h.ge _ ht; omega, Nat.zero_le _, hr.cl, by decide, by decide, by decide, by decide, by decide, by decide⟩).mono ?_
  rw [Lk.tw_ta, Lk.tw_te.2]
  rintro e w' ⟨uv, bv, rfl, hk, Sa', h1, h2, h3, h4, h5, h6, h7⟩
  obtain ⟨Au, cu, rfl⟩ := h4.none_
  obtain ⟨A2, k2, rfl⟩ := h5.none_
  exact ⟨Au, cu, A2, k2, rfl, hk, _, Sa', h.step hk h1 h3, hr.cells.kept hk hr.out⟩
end
/-- What `two` leaves. -/
def TwoP (w : World) (e : Ending) (w' : World) : Prop :=
  ∃ a b, e = .returned (.tuple #[.pointer (some ⟨a, 0, none⟩), .pointer (some ⟨b, 0, none⟩), .bool true]) ∧ ∃ T Sa Sb, Pair w w' T Sa Sb a b 1 1 Lk.sA Lk.sB
end Go.Proofs.YtfgajjfcjlejmaaDoor

/-
  The chapter's two links: the walk.
-/
namespace Go.Proofs.YtfgajjfcjlejmaaDoor
set_option maxRecDepth 100000
set_option linter.unusedSimpArgs false
open Go Go.RowKit Wr
attribute [local go_sem] Oper.semAt_some

set_option maxHeartbeats 4000000 in
theorem two_any {w : World} (hL : Lay w) : Calls Tryd.prog 25 #[] w (TwoP w) := by
  obtain ⟨P, hP⟩ : ∃ P : Ending → World → Prop, P = TwoP w := ⟨_, rfl⟩
  have HP : Hid (∀ a b W T Sa Sb, Pair w W T Sa Sb a b 1 1 Lk.sA Lk.sB → P (.returned (.tuple #[.pointer (some ⟨a, 0, none⟩), .pointer (some ⟨b, 0, none⟩), .bool true])) W) := by rw [hP]; exact fun a b W T Sa Sb h => ⟨a, b, rfl, T, Sa, Sb, h⟩
  rw [← hP]
  clear hP
  have HL := Lib.hid hL
  clear hL
  have HB0 : Hid (Below w.heap.size w w) := Below.refl _ _
  go_enter Tryd.func25, Tryd.ntmps25
  go_wp2_with fail
  refine (two_rule _).mono ?_
  rintro e w1 ⟨rfl, hb1⟩
  have HB1 := Lib.hid hb1
  clear hb1
  go_wp2_with fail
  refine (two_newA w1 HB1.out).mono ?_
  rintro e w2 ⟨a, rfl, Sa, ha, hge, hb2⟩
  have HA := Lib.hid ha
  have HG := Lib.hid hge
  have HB2 := Lib.hid hb2
  clear ha hge hb2
  go_wp2_with fail
  refine (two_rule _).mono ?_
  rintro e w3 ⟨rfl, hb3⟩
  have HB3 := Lib.hid hb3
  clear hb3
  go_wp2_with fail
  refine (two_newB w3 (HB2.out.trans (HB3.out.mono HB2.out.size)) (HA.out.below HB3.out) HG.out).mono ?_
  rintro e w4 ⟨b, rfl, T4, Sb, hp⟩
  have HP4 := Lib.hid hp
  clear hp HA HG HB1 HB2 HB3
  go_wp2_with fail
  refine (two_open HP4.out).mono ?_
  rintro e w5 ⟨g, cap, A, c, rfl, T5, Sa5, hp, hr⟩
  have HP5 := Lib.hid hp
  have HR5 := Lib.hid hr
  clear hp HP4
  obtain ⟨c0, c1, c2, c3, c4, c5, c6, c7, c8, c9, c10, c11, c12, c13, c14⟩ := hr.cells.fifteen
  clear hr
  simp only [Lk.pA, Lk.bareM] at c0 c1 c2 c3 c4 c5 c6 c7 c8 c9 c10 c11 c12 c13 c14
  go_wp2_with fail
  refine (two_takeB HL.out HP5.out HR5.out).mono ?_
  rintro e w6 ⟨Au, cu, g2, cap2, A2, k2, rfl, T6, Sb6, hp, hc, hr⟩
  have HP6 := Lib.hid hp
  have HC6 := Lib.hid hc
  have HR6 := Lib.hid hr
  clear hp hc hr HP5 HR5 c0 c1 c2 c3 c4 c5 c6 c7 c8 c9 c10 c11 c12 c13 c14
  have hbx : Below w6.heap.size w6 (w6.alloc (.cells #[.slice Au 0 cu, .slice (some ⟨g2, 0, none⟩) 1 cap2, .bool true] 52)) := (Below.refl _ w6).alloc (Nat.le_refl _) _
  have hnew : (w6.alloc (.cells #[.slice Au 0 cu, .slice (some ⟨g2, 0, none⟩) 1 cap2, .bool true] 52)).heap[w6.heap.size]? = some (.cells #[.slice Au 0 cu, .slice (some ⟨g2, 0, none⟩) 1 cap2, .bool true] 52 (0, 0)) := World.alloc_heap_new w6 _
  obtain ⟨_, _, c2, c3, _⟩ := (HC6.out.kept (X := fun _ => False) (Kept.of_below hbx (Nat.le_refl _)) id).fifteen
  obtain ⟨d0, d1, d2, d3, d4, d5, d6, d7, d8, d9, d10, d11, d12, d13, d14⟩ := (HR6.out.cells.kept (X := fun _ => False) (Kept.of_below hbx (Nat.le_refl _)) id).fifteen
  simp only [Lk.pA, Lk.pB, Lk.bareM] at c2 c3 d0 d1 d2 d3 d4 d5 d6 d7 d8 d9 d10 d11 d12 d13 d14
  have HBX := Lib.hid hbx
  have HNW := Lib.hid hnew
  obtain ⟨⟨b0, b1, b2⟩, _⟩ := athree hnew
  have HO6 : Hid (¬ Sa5 w6.heap.size) := (HP6.out.out (Nat.le_refl _)).1
  clear hbx hnew
  go_wp2_with fail
  clear d0 d1 d2 d3 d4 d5 d6 d7 d8 d9 d10 d11 d12 d13 d14 c2 c3 b0 b1 b2
  refine (two_takeA HL.out (HP6.out.below HBX.out) (HR6.out.below HBX.out)).mono ?_
  rintro e w7 ⟨Av, cv, A3, k3, rfl, hk7, T7, Sa7, hp, hc⟩
  have HP7 := Lib.hid hp
  have hby : Below w7.heap.size w7 (w7.alloc (.cells #[.slice Av 0 cv, .slice A3 0 k3, .bool true] 52)) := (Below.refl _ w7).alloc (Nat.le_refl _) _
  have hb6 := (hk7.block _ (blk_lt HNW.out) HO6.out).trans HNW.out
  obtain ⟨⟨b0, b1, b2⟩, _⟩ := athree ((hby.block _ (blk_lt hb6)).trans hb6)
  obtain ⟨_, _, c2, c3, _⟩ := (hc.kept (X := fun _ => False) (Kept.of_below hby (Nat.le_refl _)) id).fifteen
  simp only [Lk.pB, Lk.bareM] at c2 c3
  have HPF : Hid (P (.returned (.tuple #[.pointer (some ⟨a, 0, none⟩), .pointer (some ⟨b, 0, none⟩), .bool true])) (w7.alloc (.cells #[.slice Av 0 cv, .slice A3 0 k3, .bool true] 52))) := HP.out a b _ _ _ _ (hp.below hby)
  have HKA : Hid (Calls Tryd.prog 23 #[.pointer (some ⟨a, 0, none⟩)] (w7.alloc (.cells #[.slice Av 0 cv, .slice A3 0 k3, .bool true] 52)) fun e w' => e = .returned (.int .u32 5) ∧ w' = (w7.alloc (.cells #[.slice Av 0 cv, .slice A3 0 k3, .bool true] 52))) := known_any (hp.below hby).la (by decide)
  have HKB : Hid (Calls Tryd.prog 23 #[.pointer (some ⟨b, 0, none⟩)] (w7.alloc (.cells #[.slice Av 0 cv, .slice A3 0 k3, .bool true] 52)) fun e w' => e = .returned (.int .u32 1) ∧ w' = (w7.alloc (.cells #[.slice Av 0 cv, .slice A3 0 k3, .bool true] 52))) := known_any (hp.below hby).lb (by decide)
  clear hp hc hk7 hb6 hby HBX HNW HO6 HP6 HR6 HC6 HP7 HP HL HB0
  go_wp2_with (first
    | ((with_reducible refine HKA.out.mono ?_); rintro e w8 ⟨rfl, hw8⟩; rw [hw8]; clear hw8)
    | ((with_reducible refine HKB.out.mono ?_); rintro e w8 ⟨rfl, hw8⟩; rw [hw8]; clear hw8))
  first
    | exact HPF.out
    | (refine bodyPost_ret (v := .tuple #[.pointer (some ⟨a, 0, none⟩), .pointer (some ⟨b, 0, none⟩), .bool true]) (by simp [results, Tryd.results25, go_sem]) rfl HPF.out)
end Go.Proofs.YtfgajjfcjlejmaaDoor
