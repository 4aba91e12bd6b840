/-
  The law BagNames.
-/
import Derived.Test.YtkhlaccabofkcaaBe
import Derived.Test.YtkhlaccabofkcaaBq
import Derived.Laws.StructEq
namespace Go.Proofs.Ytkhlaccabofkcaa
set_option maxRecDepth 100000
set_option linter.unusedSimpArgs false
open Go Go.RowKit Bg
attribute [local go_sem] Oper.semAt_some

namespace Bg
def n1 : St := sendS zero 1 2 [97, 98]
def n2 : St := dblS n1 1
def n3 : St := spoilS n2 1 0 2
def n4 : St := delS n3 1
def n5 : St := delS n4 1
def n6 : St := dblS n5 2
theorem n_facts : comeV zero = 1 ∧ dblX n1 1 = (2, 0) ∧ spoilV n2 1 0 2 = 0 ∧ delX n3 1 = (⟨1, 1, 2, [99, 98], true⟩, 0) ∧ delX n4 1 = (noFl, 80) ∧ dblX n5 2 = (3, 0) ∧ n6.l = [⟨2, 1, 2, [97, 98], false⟩, ⟨3, 1, 2, [97, 98], false⟩] ∧ n6.c = ⟨1, 1, 0, 2, 1, 0⟩ ∧ spoilV n6 2 2 1 = 80 ∧ spoilV n6 2 (-1) 1 = 80 ∧ spoilV n6 2 0 0 = 80 ∧ idx n6.l 2 = some 0 := by decide +kernel
theorem n_still : spoilS n6 2 2 1 = n6 ∧ spoilS n6 2 (-1) 1 = n6 ∧ spoilS n6 2 0 0 = n6 := ⟨rfl, rfl, rfl⟩
theorem bd1 : Bd 2 n1 := (Bd.zero 0).send 1 2 (by decide) (by decide)
theorem bd2 : Bd 4 n2 := bd1.dbl2 1
theorem bd3 : Bd 5 n3 := bd2.spoil1 1 0 (by decide)
theorem bd4 : Bd 6 n4 := bd3.del1 1
theorem bd5 : Bd 7 n5 := bd4.del1 1
theorem bd6 : Bd 9 n6 := bd5.dbl2 2
/-- On the way to a full bag. -/
structure Filling (m : Nat) (b : St) : Prop where
  bd : Bd (20 + 2 * m) b
  len : b.l.length = m
  two : idx b.l 2 = some 0
  lost : b.c.lost = 0
theorem way2 : Filling 2 n6 := ⟨bd6.mono (by omega), by rw [n_facts.2.2.2.2.2.2.1]; rfl, n_facts.2.2.2.2.2.2.2.2.2.2.2, by rw [n_facts.2.2.2.2.2.2.2.1]⟩
theorem idx_append {l m : List Fl} {n : Int} {i : Nat} (h : idx l n = some i) : idx (l ++ m) n = some i := by
  unfold idx at *
  rw [List.findIdx?_append, h]
  rfl
theorem Filling.send {m : Nat} {b : St} (h : Filling m b) (hm : m < 256) : Filling (m + 1) (sendS b 0 0 []) := by
  have h1 := h.bd.send 0 0 (d := []) (by decide) (by decide)
  have e : sendS b 0 0 [] = { b with l := b.l ++ [⟨((b.last + 1 : Nat) : Int), 0, 0, [], false⟩], last := b.last + 1, c := { b.c with sent := b.c.sent + 1 } } := by
    unfold sendS comeS
    rw [if_neg (by simp only; rw [h.len]; omega)]
  refine ⟨h1.mono (by omega), ?_, ?_, ?_⟩
  · rw [e]; simp [h.len]
  · rw [e]; exact idx_append h.two
  · rw [e]; exact h.lost
end Bg
/-- How long a bag's list is. -/
def lenW (o : Nat) (W : World) : Nat := match W.cell? ⟨o, 0, none⟩ with | some (.slice _ n _) => n | _ => 0
theorem One.lenW {w0 W : World} {o : Nat} {b : St} (h : One 29 w0 o b W) : lenW o W = b.l.length := by
  obtain ⟨_, S, h2, _⟩ := h
  obtain ⟨A, cap, _, ⟨c0, _⟩, _⟩ := h2.cells
  unfold Proofs.Ytkhlaccabofkcaa.lenW
  rw [c0]

theorem cnt_f5 (v0 v1 v2 v3 v4 v5 : Value) : ∀ w, (Instr.field 27 (.agg #[v0, v1, v2, v3, v4, v5]) 5).run Try.prog w = .ok v5 w := fun _ => by kernel_rfl

set_option maxHeartbeats 8000000 in
theorem names_any (w : World) : Calls Try.prog 4 #[] w fun e w' => e = .returned (.bool true) ∧ Below w.heap.size w w' := by
  obtain ⟨P, hP⟩ : ∃ P : Ending → World → Prop, P = fun e w' => e = .returned (.bool true) ∧ Below w.heap.size w w' := ⟨_, rfl⟩
  have HQ : Hid (∀ w', Below w.heap.size w w' → P (.returned (.bool true)) w') := by rw [hP]; exact fun w' h => ⟨rfl, h⟩
  rw [← hP]
  clear hP
  obtain ⟨f1, f2, f3, f4, f5, f6, f7, f8, f9, f10, f11, f12⟩ := n_facts
  have T1 : Hid (∀ (W : World) (A : Option Addr) (cap : Nat), OneF w w.heap.size Bg.zero [] W → BytesAt W A [97, 98] → (∀ a, A = some a → a.block ≠ w.heap.size) → (A = none → False) → Calls Try.prog 17 #[.pointer (some ⟨w.heap.size, 0, none⟩), .int .i64 1, .int .i64 2, .slice A 2 cap] W fun e w' => (∃ v, e = .returned v) ∧ OneF w w.heap.size n1 [] w') := fun W A cap h1 h2 h3 h4 =>
    (onf_send h1 (Bd.zero 0) (by omega) 1 2 h2 (fun a ha _ => h3 a ha) (fun e => (h4 e).elim) (by decide)).mono fun e w' h => ⟨⟨_, h.1⟩, h.2⟩
  have T2 : Hid (∀ W, OneF w w.heap.size n1 [] W → Calls Try.prog 18 #[.pointer (some ⟨w.heap.size, 0, none⟩), .int .i64 1] W fun e w' => (∃ v, e = .returned v) ∧ OneF w w.heap.size n2 [] w') := fun W h => (onf_dbl h bd1 (by omega) 1).mono fun e w' h => ⟨⟨_, h.1⟩, h.2⟩
  have T3 : Hid (∀ W, OneF w w.heap.size n2 [] W → Calls Try.prog 19 #[.pointer (some ⟨w.heap.size, 0, none⟩), .int .i64 1, .int .i64 0, .int .u8 2] W fun e w' => (∃ v, e = .returned v) ∧ OneF w w.heap.size n3 [] w') := fun W h => (onf_spoil h bd2 (by omega) 1 0 (v := 2) (by decide)).mono fun e w' h => ⟨⟨_, h.1⟩, h.2⟩
  have T4 : Hid (∀ W, OneF w w.heap.size n3 [] W → Calls Try.prog 20 #[.pointer (some ⟨w.heap.size, 0, none⟩), .int .i64 1] W fun e w' => ∃ (a : Addr) (cap : Nat) (x : Obj), e = .returned (.tuple #[.agg #[.int .i64 1, .int .i64 1, .int .i64 2, .slice (some a) 2 cap, .bool true], .int .i64 0]) ∧ BytesAt w' (some a) [99, 98] ∧ OneF w w.heap.size n4 [(a.block, x)] w') := fun W h => by
    have h9 := onf_del h bd3 (by omega) 1
    rw [f4] at h9
    refine h9.mono ?_
    rintro e w' ⟨A, cap, q1, q2, q3, q4⟩
    cases A with
    | none => obtain ⟨_, h0, _⟩ := q2 0 (by decide); cases h0
    | some a =>
      obtain ⟨x, _, q5⟩ := q4 a rfl (by decide)
      exact ⟨a, cap, x, q1, q2, q5⟩
  have T5 : Hid (∀ W K, OneF w w.heap.size n4 K W → Calls Try.prog 20 #[.pointer (some ⟨w.heap.size, 0, none⟩), .int .i64 1] W fun e w' => ∃ A cap, e = .returned (.tuple #[.agg #[.int .i64 0, .int .i64 0, .int .i64 0, .slice A 0 cap, .bool false], .int .i64 80]) ∧ OneF w w.heap.size n5 K w') := fun W K h => by
    have h9 := onf_del h bd4 (by omega) 1
    rw [f5] at h9
    refine h9.mono ?_
    rintro e w' ⟨A, cap, q1, _, q3, _⟩
    exact ⟨A, cap, q1, q3⟩
  have T6 : Hid (∀ W K, OneF w w.heap.size n5 K W → Calls Try.prog 18 #[.pointer (some ⟨w.heap.size, 0, none⟩), .int .i64 2] W fun e w' => e = .returned (.tuple #[.int .i64 3, .int .i64 0]) ∧ OneF w w.heap.size n6 K w') := fun W K h => by
    have h9 := onf_dbl h bd5 (by omega) 2
    rw [f6] at h9
    exact h9
  have HN : Hid (∀ (x : Obj), OneF w w.heap.size Bg.zero [] ((w.alloc (.cells #[.slice none 0 0, .int .i64 0, .int .i64 0, .int .i64 0, .int .i64 0, .int .i64 0, .int .i64 0, .int .i64 0] 29)).alloc x)) := fun x => by
    obtain ⟨h1, S, h2, h3⟩ := (One.new w w (Below.refl _ w) 29).later ((Below.refl _ _).alloc (Nat.le_refl _) x)
    exact ⟨h1, S, h2, h3, fun p hp => absurd hp (List.not_mem_nil)⟩
  have kc : ∀ (W : World) (x : Obj) (C : Array Value) (n c : Nat), (convert 34 34 (.slice (some ⟨W.heap.size + 1, 0, none⟩) n c)).run Try.prog ((W.alloc x).alloc (.cells C 5)) = .ok (.slice (some ⟨W.heap.size + 1, 0, none⟩) n c) ((W.alloc x).alloc (.cells C 5 (C.size, C.size + 1))) := fun W x C n c => by
    have := Lib.run_convert_bytes_const (P := Try.prog) (W.alloc x) 34 5 C n c Try.underlying34 Try.underlying5
    rwa [World.size_alloc] at this
  go_enter Try.func4, Try.ntmps4
  go_wp2_with fail
  have hnew : ((w.alloc (.cells #[.slice none 0 0, .int .i64 0, .int .i64 0, .int .i64 0, .int .i64 0, .int .i64 0, .int .i64 0, .int .i64 0] 29)).alloc (.cells #[.int .u8 97, .int .u8 98] 5 (2, 3))).heap[w.heap.size + 1]? = some (.cells #[.int .u8 97, .int .u8 98] 5 (2, 3)) := by
    have := World.alloc_heap_new (w.alloc (.cells #[.slice none 0 0, .int .i64 0, .int .i64 0, .int .i64 0, .int .i64 0, .int .i64 0, .int .i64 0, .int .i64 0] 29)) (.cells #[.int .u8 97, .int .u8 98] 5 (2, 3))
    rwa [World.size_alloc] at this
  refine (T1.out _ _ _ (HN.out _) (fun j hj => ⟨_, rfl, ?_⟩) (fun a ha => by cases ha; simp) (fun e => by cases e)).mono ?_
  · match j, hj with
    | 0, _ => rw [show (⟨w.heap.size + 1, 0, none⟩ : Addr).add 0 = ⟨w.heap.size + 1, 0, none⟩ from rfl, blk_cell hnew]; rfl
    | 1, _ => rw [show (⟨w.heap.size + 1, 0, none⟩ : Addr).add 1 = ⟨w.heap.size + 1, 1, none⟩ from rfl, blk_cell hnew]; rfl
  clear hnew
  rintro e w1 ⟨⟨v1, rfl⟩, h1⟩
  have U2 := Lib.hid (T2.out w1 h1)
  clear T1 T2 HN h1 kc
  go_wp2_with fail
  refine U2.out.mono ?_
  rintro e w2 ⟨⟨v2, rfl⟩, h2⟩
  have U3 := Lib.hid (T3.out w2 h2)
  clear T3 U2 h2
  go_wp2_with fail
  refine U3.out.mono ?_
  rintro e w3 ⟨⟨v3, rfl⟩, h3⟩
  have U4 := Lib.hid (T4.out w3 h3)
  clear T4 U3 h3
  go_wp2_with fail
  refine U4.out.mono ?_
  rintro e w4 ⟨a, cap, x, rfl, hby, h4⟩
  have HBY := Lib.hid hby
  have HX4 := Lib.hid (h4.obj _ (List.mem_cons_self ..))
  simp only at HX4
  have h4a := fun X => h4.add X
  have U5 := Lib.hid (fun X => T5.out (w4.alloc X) _ (h4a X))
  have hw4 := h4.le
  clear T5 U4 h4 hby h4a
  go_wp2_with fail
  refine (U5.out _).mono ?_
  rintro e w5 ⟨A5, cap5, rfl, h5⟩
  have h5a := fun X => h5.later ((Below.refl _ w5).alloc (Nat.le_refl _) X)
  have U6 := Lib.hid (fun X => T6.out (w5.alloc X) _ (h5a X))
  clear T6 U5 h5 h5a
  go_wp2_with fail
  refine (U6.out _).mono ?_
  rintro e w6 ⟨rfl, h6⟩
  have U7 := Lib.hid (onf_all h6 bd6)
  clear U6 h6
  go_wp2_with fail
  refine U7.out.mono ?_
  rintro e w7 ⟨hall, h7⟩
  obtain ⟨A7, cap7, rfl, hq, hcap, _, hb7⟩ := hall.q
  rw [f7] at hq hcap
  obtain ⟨g, rfl, hQ⟩ := hq (by decide)
  obtain ⟨⟨x00, _, _, _⟩, A0, c0, x03, hy0⟩ := hQ.cells 0 (by decide)
  obtain ⟨⟨x10, _, _, _⟩, A1, c1, x13, hy1⟩ := hQ.cells 1 (by decide)
  simp only [List.getD_cons_zero, List.getD_cons_succ, Nat.zero_mul, Nat.one_mul, Nat.zero_add, Nat.reduceAdd, List.length_cons, List.length_nil] at x00 x03 hy0 x10 x13 hy1
  have o1 := h7.obj _ (List.mem_cons_self ..)
  have o2 := h7.obj _ (List.mem_cons_of_mem _ (List.mem_cons_self ..))
  simp only at o1 o2
  have hby7 : BytesAt w7 (some a) [99, 98] := fun j hj => by
    obtain ⟨a', e1, h9⟩ := HBY.out j hj
    cases e1
    refine ⟨a, rfl, ?_⟩
    rw [World.cell?_of_block (w := w4) (a := a.add j)]
    · exact h9
    · rw [add_block, o2, HX4.out]
  have k1 := conv_bytes cap hby7 (by decide)
  have k2 := conv_bytes c1 hy1 (by decide)
  have s1 : strN [99, 98] = ⟨#[99, 98]⟩ := rfl
  have s2 : strN [97, 98] = ⟨#[97, 98]⟩ := rfl
  rw [s1] at k1
  rw [s2] at k2
  simp only [List.length_cons, List.length_nil, Nat.reduceAdd] at k1 k2
  obtain ⟨⟨y0, y1, y2, y3, y4⟩, _⟩ := five o1
  have U8 := Lib.hid (onf_count (h7.less (K' := []) (fun p hp => absurd hp (List.not_mem_nil))))
  rw [f8] at U8
  have he : ∀ w, (Op.equalIn 10000 27 (.agg #[.int .i64 1, .int .i64 1, .int .i64 0, .int .i64 2, .int .i64 1, .int .i64 0]) (.agg #[.int .i64 1, .int .i64 1, .int .i64 0, .int .i64 2, .int .i64 1, .int .i64 0])).run Try.prog w = .ok true w := fun _ => by kernel_rfl
  have hc2 : 2 ≤ cap7 := hcap
  rw [f7]
  simp only [List.length_cons, List.length_nil, Nat.reduceAdd]
  clear U7 h7 hall hq hQ hy0 hby7 HBY HX4 o1 o2 hb7 hcap
  go_wp2_with fail
  refine U8.out.mono ?_
  rintro e w8 ⟨rfl, h8⟩
  have H8 := Lib.hid h8
  clear U8 h8 x00 x03 x10 x13 hc2
  have S9 : Hid (∀ W, OneF w w.heap.size n6 [] W → Calls Try.prog 19 #[.pointer (some ⟨w.heap.size, 0, none⟩), .int .i64 2, .int .i64 2, .int .u8 1] W fun e w' => e = .returned (.int .i64 80) ∧ OneF w w.heap.size n6 [] w') := fun W h => by
    have h9 := onf_spoil h bd6 (by omega) 2 2 (v := 1) (by decide)
    rw [f9, n_still.1] at h9
    exact h9
  have S10 : Hid (∀ W, OneF w w.heap.size n6 [] W → Calls Try.prog 19 #[.pointer (some ⟨w.heap.size, 0, none⟩), .int .i64 2, .int .i64 (-1), .int .u8 1] W fun e w' => e = .returned (.int .i64 80) ∧ OneF w w.heap.size n6 [] w') := fun W h => by
    have h9 := onf_spoil h bd6 (by omega) 2 (-1) (v := 1) (by decide)
    rw [f10, n_still.2.1] at h9
    exact h9
  have S11 : Hid (∀ W, OneF w w.heap.size n6 [] W → Calls Try.prog 19 #[.pointer (some ⟨w.heap.size, 0, none⟩), .int .i64 2, .int .i64 0, .int .u8 0] W fun e w' => e = .returned (.int .i64 80) ∧ OneF w w.heap.size n6 [] w') := fun W h => by
    have h9 := onf_spoil h bd6 (by omega) 2 0 (v := 0) (by decide)
    rw [f11, n_still.2.2] at h9
    exact h9
  clear f1 f2 f3 f4 f5 f6 f7 f8 f9 f10 f11 f12
  go_wp2_with fail
  clear k1 k2 s1 s2 y0 y1 y2 y3 y4 he
  refine (S9.out _ H8.out).mono ?_
  rintro e w9 ⟨rfl, h9⟩
  have U10 := Lib.hid (S10.out _ h9)
  clear S9 S10 h9 H8
  go_wp2_with fail
  refine U10.out.mono ?_
  rintro e w10 ⟨rfl, h10⟩
  have U11 := Lib.hid (S11.out _ h10)
  clear S11 h10 U10
  go_wp2_with fail
  refine U11.out.mono ?_
  rintro e w11 ⟨rfl, h11⟩
  have H11 := Lib.hid h11
  clear h11 U11
  have HW0 : Hid (∃ m b, m ≤ 256 ∧ OneF w w.heap.size b [] w11 ∧ Filling m b) := ⟨2, n6, by omega, H11.out, way2⟩
  have S12 : Hid (∀ W m b, OneF w w.heap.size b [] W → Filling m b → m ≤ 256 → Calls Try.prog 17 #[.pointer (some ⟨w.heap.size, 0, none⟩), .int .i64 0, .int .i64 0, .slice none 0 0] W fun e w' => e = .returned (.int .i64 (comeV b)) ∧ OneF w w.heap.size (sendS b 0 0 []) [] w') := fun W m b h h1 h2 =>
    onf_send h h1.bd (by omega) 0 0 (d := []) (A := none) (fun j hj => by simp at hj) (fun a ha => by cases ha) (fun _ => ⟨rfl, rfl⟩) (by decide)
  clear H11
  go_wp2
  go_loopw [111] (fun _ wr => ∃ m b, m ≤ 256 ∧ OneF w w.heap.size b [] wr ∧ Filling m b) (fun _ wr => 256 - lenW w.heap.size wr)
  case atStart => exact HW0.out
  case round =>
    clear HW0
    obtain ⟨m, b, hm, hI, hway⟩ := hrel
    have HL := Lib.hid (onf_len hI)
    have HII := Lib.hid hI
    have HWY := Lib.hid hway
    rw [hway.len] at HL
    clear hI hway
    by_cases hlt : m < 256
    · have HS := Lib.hid (S12.out _ m b HII.out HWY.out hm)
      have dm : (m : Int) < 256 := by omega
      go_wp2_with fail
      refine HL.out.mono ?_
      rintro e w12 ⟨rfl, rfl⟩
      go_wp2_with fail
      refine HS.out.mono ?_
      rintro e w13 ⟨rfl, h13⟩
      have HX : Hid (∃ m b, m ≤ 256 ∧ OneF w w.heap.size b [] w13 ∧ Filling m b) := ⟨m + 1, _, by omega, h13, HWY.out.send hlt⟩
      have l1 := HII.out.one.lenW
      have l2 := h13.one.lenW
      rw [(HWY.out.send hlt).len] at l2
      rw [HWY.out.len] at l1
      clear HS h13
      go_wp2
      go_roundw
      case rel => exact HX.out
      case measure => rw [l1, l2]; omega
    · obtain rfl : m = 256 := by omega
      have HS := Lib.hid (S12.out _ 256 b HII.out HWY.out (Nat.le_refl _))
      have hcv : comeV b = 0 := by unfold comeV; rw [if_pos (by rw [HWY.out.len]; exact Nat.le_refl _)]
      rw [hcv] at HS
      have hss : sendS b 0 0 [] = { b with c := { b.c with sent := b.c.sent + 1, lost := b.c.lost + 1 } } := by
        unfold sendS comeS
        rw [if_pos (by simp only; rw [HWY.out.len]; exact Nat.le_refl _)]
      have hdd : dblX (sendS b 0 0 []) 2 = (0, 0) ∧ (dblS (sendS b 0 0 []) 2).c.lost = 2 ∧ (dblS (sendS b 0 0 []) 2).l.length = 256 := by
        have h2 : idx (sendS b 0 0 []).l 2 = some 0 := by rw [hss]; exact HWY.out.two
        have hl : 256 ≤ (sendS b 0 0 []).l.length := by rw [hss]; show 256 ≤ b.l.length; rw [HWY.out.len]; exact Nat.le_refl _
        refine ⟨?_, ?_, ?_⟩
        · simp only [dblX, h2]; unfold comeV; rw [if_pos hl]
        · simp only [dblS, h2]; unfold comeS; rw [if_pos hl, hss]; simp only [HWY.out.lost]
        · simp only [dblS, h2]; unfold comeS; rw [if_pos hl, hss]; exact HWY.out.len
      have HBD : Bd 600 (sendS b 0 0 []) := (HWY.out.bd.send 0 0 (d := []) (by decide) (by decide)).mono (by omega)
      have HD : Hid (∀ W, OneF w w.heap.size (sendS b 0 0 []) [] W → Calls Try.prog 18 #[.pointer (some ⟨w.heap.size, 0, none⟩), .int .i64 2] W fun e w' => e = .returned (.tuple #[.int .i64 0, .int .i64 0]) ∧ OneF w w.heap.size (dblS (sendS b 0 0 []) 2) [] w') := fun W h => by
        have h9 := onf_dbl h HBD (by omega) 2
        rw [hdd.1] at h9
        exact h9
      have HCC : Hid (∀ W, OneF w w.heap.size (dblS (sendS b 0 0 []) 2) [] W → Calls Try.prog 16 #[.pointer (some ⟨w.heap.size, 0, none⟩)] W fun e w' => (∃ z0 z1 z2 z3 z4, e = .returned (.agg #[.int .i64 z0, .int .i64 z1, .int .i64 z2, .int .i64 z3, .int .i64 z4, .int .i64 2])) ∧ OneF w w.heap.size (dblS (sendS b 0 0 []) 2) [] w') := fun W h => by
        refine (onf_count h).mono fun e w' h9 => ⟨?_, h9.2⟩
        have h8 := h9.1
        unfold ctA at h8
        rw [hdd.2.1] at h8
        exact ⟨_, _, _, _, _, h8⟩
      have HLL : Hid (∀ W, OneF w w.heap.size (dblS (sendS b 0 0 []) 2) [] W → Calls Try.prog 15 #[.pointer (some ⟨w.heap.size, 0, none⟩)] W fun e w' => e = .returned (.int .i64 256) ∧ W = w') := fun W h => by
        have h9 := onf_len h
        rw [hdd.2.2] at h9
        exact h9
      clear hcv hss hdd HBD S12
      go_wp2_with fail
      refine HL.out.mono ?_
      rintro e w12 ⟨rfl, rfl⟩
      clear HL HII HWY
      go_wp2_with fail
      refine HS.out.mono ?_
      rintro e w13 ⟨rfl, h13⟩
      have HD2 := Lib.hid (HD.out _ h13)
      clear HS HD h13
      go_wp2_with fail
      refine HD2.out.mono ?_
      rintro e w14 ⟨rfl, h14⟩
      have HC2 := Lib.hid (HCC.out _ h14)
      clear HCC HD2 h14
      go_wp2_with fail
      refine HC2.out.mono ?_
      rintro e w15 ⟨⟨z0, z1, z2, z3, z4, rfl⟩, h15⟩
      have HL2 := Lib.hid (HLL.out _ h15)
      have HB15 := Lib.hid h15.1
      have hfl := fun w => cnt_f5 (.int .i64 z0) (.int .i64 z1) (.int .i64 z2) (.int .i64 z3) (.int .i64 z4) (.int .i64 2) w
      clear HC2 HLL h15
      go_wp2_with fail
      refine HL2.out.mono ?_
      rintro e w16 ⟨rfl, rfl⟩
      clear HL2 hfl
      go_wp2_with fail
      refine (deliver_none w15 1).mono ?_
      rintro e w17 ⟨rfl, hb⟩
      have B17 : Hid (∀ X, Below w.heap.size w (w17.alloc X)) := fun X => (HB15.out.trans (hb.mono HB15.out.size)).alloc (Nat.le_trans HB15.out.size hb.size) X
      clear hb
      simp only [flA, noFl]
      go_wp2_with fail
      refine (dbl_none _ 1).mono ?_
      rintro e w18 ⟨rfl, hb⟩
      have B18 : Hid (Below w.heap.size w w18) := (B17.out _).trans (hb.mono (B17.out _).size)
      clear hb B17
      go_wp2_with fail
      refine (find_none _ 1).mono ?_
      rintro e w19 ⟨rfl, hb⟩
      have B19 : Hid (∀ X, Below w.heap.size w (w19.alloc X)) := fun X => (B18.out.trans (hb.mono B18.out.size)).alloc (Nat.le_trans B18.out.size hb.size) X
      clear hb B18
      simp only [flA, noFl]
      go_wp2_with fail
      refine (alive_any _).mono ?_
      rintro e w20 ⟨rfl, hb⟩
      have B20 : Hid (Below w.heap.size w w20) := (B19.out _).trans (hb.mono (B19.out _).size)
      clear hb B19
      go_wp2_with fail
      refine (drop_none _ 1).mono ?_
      rintro e w21 ⟨rfl, hb⟩
      have B21 : Hid (Below w.heap.size w w21) := B20.out.trans (hb.mono B20.out.size)
      clear hb B20
      go_wp2_with fail
      refine (spoil_none _ 1 0 1).mono ?_
      rintro e w22 ⟨rfl, hb⟩
      have B22 : Hid (Below w.heap.size w w22) := B21.out.trans (hb.mono B21.out.size)
      clear hb B21
      go_wp2_with fail
      refine (send_none _ 0 0 none 0 0).mono ?_
      rintro e w23 ⟨rfl, rfl⟩
      go_wp2_with fail
      refine (all_none _).mono ?_
      rintro e w24 ⟨rfl, hb⟩
      have B24 : Hid (Below w.heap.size w w24) := B22.out.trans (hb.mono B22.out.size)
      clear hb B22
      go_wp2_with fail
      refine (len_none _).mono ?_
      rintro e w25 ⟨rfl, rfl⟩
      have he0 : ∀ w, (Op.equalIn 10000 27 (.agg #[.int .i64 0, .int .i64 0, .int .i64 0, .int .i64 0, .int .i64 0, .int .i64 0]) (.agg #[.int .i64 0, .int .i64 0, .int .i64 0, .int .i64 0, .int .i64 0, .int .i64 0])).run Try.prog w = .ok true w := fun _ => by kernel_rfl
      go_wp2_with fail
      refine (count_none _).mono ?_
      rintro e w26 ⟨rfl, hb⟩
      have HF := Lib.hid (HQ.out _ (B24.out.trans (hb.mono B24.out.size)))
      clear hb B24
      go_wp2
      first | exact HF.out | (go_ret; exact HF.out)
end Go.Proofs.Ytkhlaccabofkcaa
