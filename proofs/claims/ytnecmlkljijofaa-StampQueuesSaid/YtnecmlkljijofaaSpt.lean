/-
  The law StampRaises.
-/
import Derived.Test.YtnecmlkljijofaaSp9
namespace Go.Proofs.Ytnecmlkljijofaa
set_option maxRecDepth 100000
set_option linter.unusedSimpArgs false
open Go Go.RowKit Sp

theorem up_at2 {w : World} {o : Nat} {l : List Wt} (h : QAt w o l) (r q : Int) :
    Calls Try.prog 16 #[.pointer (some ⟨o, 0, none⟩), .int .i64 r, .int .i64 q] w fun e w' => e = .returned (.bool (upB l r q)) ∧ QAt w' o (upL l r q) ∧ Kept (fun k => k = o) w w' := by
  refine (up_any (.inr ⟨o, rfl, h⟩) r q).mono ?_
  rintro e w' ⟨rfl, h3, h4⟩
  rcases h3 with ⟨h3, _⟩ | ⟨o', h3, h5⟩
  · cases h3
  · cases h3
    exact ⟨rfl, h5, h4.mono (fun k _ hk => by obtain ⟨o2, e1, e2⟩ := hk; cases e1; exact e2)⟩
/-- All, as a list beside all that there was. -/
theorem all_w {w : World} {p : Option Addr} {l : List Wt} (h : QP w p l) :
    Calls Try.prog 21 #[.pointer p] w fun e w' => ∃ v, e = .returned v ∧ IsW w' v l ∧ (∀ k, v.ownBlock = some k → w.heap.size ≤ k) ∧ Below w.heap.size w w' := by
  refine (all_any h).mono ?_
  rintro e w' ⟨v, rfl, ho, hb⟩
  refine ⟨v, rfl, IsW.of_row ho, fun k hk => ?_, hb⟩
  rcases ho.2 with ⟨rfl, _⟩ | ⟨g', cap, cur, rfl, hb', _⟩
  · cases hk
  · have : g' = k := by simpa [Value.ownBlock] using hk
    omega
/-- One of a list is put. -/
theorem put_s {w : World} {o : Nat} {l : List Wt} (h : QAt w o l) (y : Wt) :
    Calls Try.prog 14 #[.pointer (some ⟨o, 0, none⟩), .agg #[.int .i64 y.r, .int .u64 y.s, .int .i64 y.p]] w fun e w' => (∃ v, e = .returned v) ∧ QAt w' o (putS l y) ∧ Kept (fun k => k = o) w w' := by
  refine (put_any h y).mono ?_
  rintro e w' ⟨rfl, h4, h5⟩
  exact ⟨⟨_, rfl⟩, h4, h5⟩
theorem up_cases (l : List Wt) (r q : Int) :
    (has l r = false ∧ upB l r q = false) ∨ (has l r = true ∧ ¬ (finV l r).p < q ∧ upB l r q = false) ∨ (has l r = true ∧ (finV l r).p < q ∧ ¬ q ≤ 15 ∧ upB l r q = false) ∨ (has l r = true ∧ (finV l r).p < q ∧ q ≤ 15 ∧ upB l r q = true) := by
  unfold upB finV
  by_cases h : has l r = true
  · rw [h]
    rw [if_pos rfl]
    by_cases h1 : (at_ l r).p < q
    · by_cases h2 : q ≤ 15
      · exact .inr (.inr (.inr ⟨rfl, h1, h2, by simp [h1, h2]⟩))
      · exact .inr (.inr (.inl ⟨rfl, h1, h2, by simp [h2]⟩))
    · exact .inr (.inl ⟨rfl, h1, by simp [h1]⟩)
  · have h' : has l r = false := by simpa using h
    rw [h']
    exact .inl ⟨rfl, rfl⟩

set_option maxHeartbeats 8000000 in
theorem raises_any {w : World} {A : Option Addr} {l : List Wt} {cap : Nat} (hA : WtsAt w A l) (r q : Int) :
    Calls Try.prog 8 #[.slice A l.length cap, .int .i64 r, .int .i64 q] w fun x w' => x = .returned (.bool true) ∧ Below w.heap.size w w' := by
  obtain ⟨N, hN⟩ : ∃ N, N = l.length := ⟨_, rfl⟩
  rw [← hN]
  have HAl : Hid (∃ Wa, w.alloc (.cells #[.int .i64 r] 3) = Wa ∧ Wa.heap[w.heap.size]? = some (.cells #[.int .i64 r] 3 (0, 0)) ∧ Below w.heap.size w Wa ∧ Calls Try.prog 31 #[] Wa fun e w' => e = .returned (.bool true) ∧ Below Wa.heap.size Wa w') :=
    ⟨_, rfl, World.alloc_heap_new _ _, (Below.refl _ w).alloc (Nat.le_refl _) _, alive_any _⟩
  by_cases hl : 8 < N
  · have e1 : decide ((8 : Int) < (N : Int)) = true := by simp; omega
    have e2 : decide (8 < N) = true := by simpa using hl
    clear hA
    go_enter Try.func8, Try.ntmps8
    go_wp2_with fail
    obtain ⟨Wa, hWa, _, ba, HAL⟩ := HAl.out
    rw [hWa]
    refine HAL.mono ?_
    rintro e' W0 ⟨rfl, b0⟩
    have HB := Lib.hid (ba.trans (b0.mono ba.size))
    clear b0 HAL hWa ba
    go_wp2
    go_ret
    exact ⟨rfl, HB.out⟩
  · have e1 : decide ((8 : Int) < (N : Int)) = false := by simp; omega
    have e2 : decide (8 < N) = false := by simpa using hl
    have HA := Lib.hid hA
    have HN := Lib.hid hN
    clear hA hN
    go_enter Try.func8, Try.ntmps8
    go_wp2_with fail
    obtain ⟨Wa, hWa, hra, ba, HAL⟩ := HAl.out
    rw [hWa]
    refine HAL.mono ?_
    rintro e' W0 ⟨rfl, b0⟩
    have hwa : w.heap.size < W0.heap.size := Nat.lt_of_lt_of_le (blk_lt hra) b0.size
    have HR0 := Lib.hid ((b0.block _ (blk_lt hra)).trans hra)
    have HB0 := Lib.hid (ba.trans (b0.mono ba.size))
    have HZ := Lib.hid (zq_new W0)
    clear b0 HAL hWa ba hra HAl
    go_wp2_with fail
    obtain ⟨W1, hW1, q1, s1⟩ := HZ.out
    rw [hW1]
    have HQ1 := Lib.hid q1
    have HK1 : Hid (Kept (fun k => k = W0.heap.size) w W1) := ((Kept.of_below HB0.out (Nat.le_refl _)).trans s1 (fun _ _ h => h.elim))
    have HR1 := Lib.hid ((s1.block _ (blk_lt HR0.out) id).trans HR0.out)
    clear hW1 q1 s1 HZ HB0 HR0
    go_wp2_with fail
    go_loopw [30] (fun u wr => ∃ j : Nat, j ≤ N ∧ u = .int .i64 (j : Int) ∧ QAt wr W0.heap.size (puts (l.take j)) ∧ wr.heap[w.heap.size]? = some (.cells #[.int .i64 r] 3 (0, 0)) ∧ Kept (fun k => k = W0.heap.size) w wr) (fun u _ => N - (intOf u).toNat)
    case atStart => exact ⟨0, Nat.zero_le _, rfl, HQ1.out, HR1.out, HK1.out⟩
    case round =>
      obtain ⟨j, hj, rfl, hq, hr, hk⟩ := hrel
      rename World => V
      by_cases hlt : j < N
      · obtain ⟨a, rfl, c00, c01, c02⟩ := (HA.out.kept hk (fun k hk => by omega)) j (by rw [← HN.out]; exact hlt)
        have HP := Lib.hid (put_s hq (l.getD j w0))
        have hpt := puts_take (l := l) (j := j) (by rw [← HN.out]; exact hlt)
        rw [← hpt] at HP
        have HJ := Lib.hid hlt
        have HK := Lib.hid hk
        have HR := Lib.hid hr
        have j0 : (0 : Int) ≤ (j : Int) := by omega
        have j1 : (j : Int) < (N : Int) := by omega
        clear hq hr hk hpt hj
        generalize l.getD j w0 = y at *
        obtain ⟨x0, x1, x2⟩ := y
        simp only at c00 c01 c02 HP
        go_wp2_with fail
        refine HP.out.mono ?_
        rintro e' W3 ⟨⟨v, rfl⟩, hq3, hk3⟩
        have HQ3 := Lib.hid hq3
        have HK3 := Lib.hid (HK.out.trans hk3 (fun _ _ h => h))
        have HR3 := Lib.hid ((hk3.block _ (blk_lt HR.out) (by omega)).trans HR.out)
        clear hq3 hk3 HP HK HR c00 c01 c02
        go_wp2
        go_roundw
        case rel => exact ⟨j + 1, HJ.out, by go_num, HQ3.out, HR3.out, HK3.out⟩
        case measure => have := HJ.out; simp [intOf]; omega
      · obtain rfl : j = N := by omega
        have hL : l.take j = l := by rw [HN.out, List.take_length]
        rw [hL] at hq
        clear hL HQ1 HR1 HK1 HA hj
        have HOK := Lib.hid (puts_ok l)
        generalize puts l = L at *
        have hr1 := hr
        have HK0 := Lib.hid hk
        clear hr hk
        -- what there was
        have HA1 := Lib.hid (all_w (p := some ⟨W0.heap.size, 0, none⟩) (.inr ⟨_, rfl, hq⟩))
        go_wp2_with fail
        refine HA1.out.mono ?_
        rintro e' V1 ⟨v1, rfl, i1, o1, b1⟩
        have hoV : W0.heap.size < V.heap.size := hq.lt
        have q1 := hq.kept (still_of b1) id
        have K1 := Lib.hid (HK0.out.trans (still_of b1) (fun _ _ h => h.elim))
        have r1 := (b1.block _ (blk_lt hr1)).trans hr1
        have O1 : Hid (∀ k, v1.ownBlock = some k → ¬ k = W0.heap.size) := fun k hk => by have := o1 k hk; omega
        have bb1 : V.heap.size ≤ V1.heap.size := b1.size
        clear hq HK0 b1 hr1 HA1 o1
        have cr1 : V1.cell? ⟨w.heap.size, 0, none⟩ = some (.int .i64 r) := by rw [blk_cell r1]; rfl
        have HF1 := Lib.hid (fin_any (p := some ⟨W0.heap.size, 0, none⟩) (.inr ⟨_, rfl, q1⟩) r)
        go_wp2_with fail
        refine HF1.out.mono ?_
        rintro e' V2 ⟨rfl, b2⟩
        have q2 := q1.kept (still_of b2) id
        have i2 := i1.still (still_of b2)
        have K2 := Lib.hid (K1.out.trans (still_of b2) (fun _ _ h => h.elim))
        have r2 := (b2.block _ (blk_lt r1)).trans r1
        have bb2 : V.heap.size ≤ V2.heap.size := Nat.le_trans bb1 b2.size
        clear q1 K1 b2 r1 cr1 i1 HF1 bb1
        have hcs := up_cases L r q
        have hr3 : ∀ c t, (V2.alloc (.cells c t)).cell? ⟨w.heap.size, 0, none⟩ = some (.int .i64 r) := fun c t => Lib.cell?_alloc_some _ (by rw [blk_cell r2]; rfl)
        have HX3 : Hid (∀ c t, ∃ V3, V2.alloc (.cells c t) = V3 ∧ V3.heap[V2.heap.size]? = some (.cells c t (0, 0)) ∧ QAt V3 W0.heap.size L ∧ IsW V3 v1 L ∧ Kept (fun k => k = W0.heap.size) w V3 ∧ V3.heap[w.heap.size]? = some (.cells #[.int .i64 r] 3 (0, 0))) := fun c t =>
          ⟨_, rfl, World.alloc_heap_new _ _, q2.kept (X := fun _ => False) ((Kept.refl _ V2).alloc _) id, i2.still ((Kept.refl _ V2).alloc _), K2.out.alloc _, (Below.heap_alloc _ _ _ (blk_lt r2)).trans r2⟩
        clear q2 K2 r2 i2
        obtain ⟨fv, hfv⟩ : ∃ fv, fv = finV L r := ⟨_, rfl⟩
        rw [← hfv] at hcs
        rw [← hfv]
        clear hfv
        obtain ⟨y0, y1, y2⟩ := fv
        simp only [wv] at hcs ⊢
        go_wp2_with fail
        obtain ⟨V3, hV3, bx3, q3, i3, k3, r3⟩ := HX3.out #[.int .i64 y0, .int .u64 y1, .int .i64 y2] 40
        rw [hV3]
        clear hV3 hr3 HX3
        have HU := Lib.hid (up_at2 q3 r q)
        refine HU.out.mono ?_
        rintro e' V4 ⟨rfl, q4, k34⟩
        have i4 := i3.kept k34 (fun k hk => O1.out k hk)
        have K4 := Lib.hid (k3.trans k34 (fun _ _ h => h))
        have r4 := (k34.block _ (blk_lt r3) (by omega)).trans r3
        have bx4 := (k34.block _ (blk_lt bx3) (by omega)).trans bx3
        clear q3 i3 k3 r3 k34 bx3 HU
        have HA4 := Lib.hid (all_w (p := some ⟨W0.heap.size, 0, none⟩) (.inr ⟨_, rfl, q4⟩))
        go_wp2_with fail
        refine HA4.out.mono ?_
        rintro e' V5 ⟨v5, rfl, i5, _, b5⟩
        have j5 := i4.still (still_of b5)
        have K5 := Lib.hid (K4.out.trans (still_of b5) (fun _ _ h => h.elim))
        have r5 := (b5.block _ (blk_lt r4)).trans r4
        have bx5 := (b5.block _ (blk_lt bx4)).trans bx4
        clear q4 i4 K4 r4 bx4 b5 HA4
        have cb2 : V5.cell? ⟨V2.heap.size, 2, none⟩ = some (.int .i64 y2) := by rw [blk_cell bx5]; rfl
        have cr5 : V5.cell? ⟨w.heap.size, 0, none⟩ = some (.int .i64 r) := by rw [blk_cell r5]; rfl
        obtain ⟨f1, f2, f3, f4⟩ : rest (upL L r q) r = rest L r ∧ atI (upL L r q) r ≤ atI L r ∧ (upL L r q).length = L.length ∧ L.length ≤ 8 := ⟨up_rest L r q, up_at_le HOK.out r q, up_len L r q, HOK.out.len⟩
        -- from here on the same, however it was raised
        have CR : Hid (∀ V, Still V5 V → V.cell? ⟨w.heap.size, 0, none⟩ = some (.int .i64 r)) := fun V hV => hV.cell cr5 id
        have HAt1 := Lib.hid (fun V (hV : Still V5 V) => at_any (k := w.heap.size) (r := r) (i5.still hV) (by omega) (CR.out V hV))
        have HAt2 := Lib.hid (fun V (hV : Still V5 V) => at_any (k := w.heap.size) (r := r) (j5.still hV) (by omega) (CR.out V hV))
        have HRe1 := Lib.hid (fun V (hV : Still V5 V) => rest_any (k := w.heap.size) (r := r) (i5.still hV) (by omega) (CR.out V hV))
        have HRe2 := Lib.hid (fun V (hV : Still V5 V) => rest_any (k := w.heap.size) (r := r) (j5.still hV) (by omega) (CR.out V hV))
        have HRL : Hid ((rest (upL L r q) r).length ≤ 100000) := by have := rest_len (upL L r q) r; show _ ≤ _; omega
        obtain ⟨A5, c5, rfl, _⟩ := i5
        obtain ⟨A1, c1, rfl, _⟩ := j5
        rw [f3] at HAt1 HRe1 ⊢
        have HF1 := Lib.hid f1
        have g1 : decide (atI (upL L r q) r ≤ atI L r) = true := by simpa using f2
        have g1' : atI (upL L r q) r ≤ atI L r := f2
        clear f1 f2 f3 f4 bx5 r5 CR
        generalize L.length = n at *
        generalize atI (upL L r q) r = k1 at *
        generalize atI L r = k2 at *
        rcases hcs with ⟨hb, hu⟩ | ⟨hb, hp, hu⟩ | ⟨hb, hp, hq15, hu⟩ | ⟨hb, hp, hq15, hu⟩ <;> rw [hb, hu]
        · go_wp2_with fail
          refine (HAt1.out _ (Kept.refl _ _)).mono ?_
          rintro e' V6 ⟨rfl, s6⟩
          have S6 := Lib.hid s6
          clear s6 cb2 cr5
          go_wp2_with fail
          refine (HAt2.out _ S6.out).mono ?_
          rintro e' V7 ⟨rfl, s7⟩
          have S7 := Lib.hid (S6.out.trans s7 (fun _ _ h => h))
          clear s7 S6
          go_wp2_with fail
          refine (HRe1.out _ S7.out).mono ?_
          rintro e' V8 ⟨v8, rfl, i8, s8⟩
          have S8 := Lib.hid (S7.out.trans s8 (fun _ _ h => h))
          have I8 := Lib.hid i8
          clear s8 S7 i8
          go_wp2_with fail
          refine (HRe2.out _ S8.out).mono ?_
          rintro e' V9 ⟨v9, rfl, i9, s9⟩
          have S9 := Lib.hid (S8.out.trans s9 (fun _ _ h => h))
          have HSm := Lib.hid (same_any (I8.out.still s9) i9 HRL.out)
          rw [decide_eq_true HF1.out] at HSm
          clear s9 S8 i9 I8
          go_wp2_with fail
          refine HSm.out.mono ?_
          rintro e' V10 ⟨rfl, s10⟩
          have HF := Lib.hid (((K5.out.trans S9.out (fun _ _ h => h.elim)).trans s10 (fun _ _ h => h.elim)).below (B := w.heap.size) (fun k hk => by omega) (Nat.le_refl _))
          clear s10 S9 HSm
          go_wp2
          go_ret
          exact ⟨rfl, HF.out⟩
        · have p1 : decide (y2 < q) = false := by simpa using hp
          go_wp2_with fail
          refine (HAt1.out _ (Kept.refl _ _)).mono ?_
          rintro e' V6 ⟨rfl, s6⟩
          have S6 := Lib.hid s6
          clear s6 cb2 cr5
          go_wp2_with fail
          refine (HAt2.out _ S6.out).mono ?_
          rintro e' V7 ⟨rfl, s7⟩
          have S7 := Lib.hid (S6.out.trans s7 (fun _ _ h => h))
          clear s7 S6
          go_wp2_with fail
          refine (HRe1.out _ S7.out).mono ?_
          rintro e' V8 ⟨v8, rfl, i8, s8⟩
          have S8 := Lib.hid (S7.out.trans s8 (fun _ _ h => h))
          have I8 := Lib.hid i8
          clear s8 S7 i8
          go_wp2_with fail
          refine (HRe2.out _ S8.out).mono ?_
          rintro e' V9 ⟨v9, rfl, i9, s9⟩
          have S9 := Lib.hid (S8.out.trans s9 (fun _ _ h => h))
          have HSm := Lib.hid (same_any (I8.out.still s9) i9 HRL.out)
          rw [decide_eq_true HF1.out] at HSm
          clear s9 S8 i9 I8
          go_wp2_with fail
          refine HSm.out.mono ?_
          rintro e' V10 ⟨rfl, s10⟩
          have HF := Lib.hid (((K5.out.trans S9.out (fun _ _ h => h.elim)).trans s10 (fun _ _ h => h.elim)).below (B := w.heap.size) (fun k hk => by omega) (Nat.le_refl _))
          clear s10 S9 HSm
          go_wp2
          go_ret
          exact ⟨rfl, HF.out⟩
        · have p1 : decide (y2 < q) = true := by simpa using hp
          have p2 : decide (q ≤ 15) = false := by simpa using hq15
          go_wp2_with fail
          refine (HAt1.out _ (Kept.refl _ _)).mono ?_
          rintro e' V6 ⟨rfl, s6⟩
          have S6 := Lib.hid s6
          clear s6 cb2 cr5
          go_wp2_with fail
          refine (HAt2.out _ S6.out).mono ?_
          rintro e' V7 ⟨rfl, s7⟩
          have S7 := Lib.hid (S6.out.trans s7 (fun _ _ h => h))
          clear s7 S6
          go_wp2_with fail
          refine (HRe1.out _ S7.out).mono ?_
          rintro e' V8 ⟨v8, rfl, i8, s8⟩
          have S8 := Lib.hid (S7.out.trans s8 (fun _ _ h => h))
          have I8 := Lib.hid i8
          clear s8 S7 i8
          go_wp2_with fail
          refine (HRe2.out _ S8.out).mono ?_
          rintro e' V9 ⟨v9, rfl, i9, s9⟩
          have S9 := Lib.hid (S8.out.trans s9 (fun _ _ h => h))
          have HSm := Lib.hid (same_any (I8.out.still s9) i9 HRL.out)
          rw [decide_eq_true HF1.out] at HSm
          clear s9 S8 i9 I8
          go_wp2_with fail
          refine HSm.out.mono ?_
          rintro e' V10 ⟨rfl, s10⟩
          have HF := Lib.hid (((K5.out.trans S9.out (fun _ _ h => h.elim)).trans s10 (fun _ _ h => h.elim)).below (B := w.heap.size) (fun k hk => by omega) (Nat.le_refl _))
          clear s10 S9 HSm
          go_wp2
          go_ret
          exact ⟨rfl, HF.out⟩
        · have p1 : decide (y2 < q) = true := by simpa using hp
          have p2 : decide (q ≤ 15) = true := by simpa using hq15
          go_wp2_with fail
          refine (HAt1.out _ (Kept.refl _ _)).mono ?_
          rintro e' V6 ⟨rfl, s6⟩
          have S6 := Lib.hid s6
          clear s6 cb2 cr5
          go_wp2_with fail
          refine (HAt2.out _ S6.out).mono ?_
          rintro e' V7 ⟨rfl, s7⟩
          have S7 := Lib.hid (S6.out.trans s7 (fun _ _ h => h))
          clear s7 S6
          go_wp2_with fail
          refine (HRe1.out _ S7.out).mono ?_
          rintro e' V8 ⟨v8, rfl, i8, s8⟩
          have S8 := Lib.hid (S7.out.trans s8 (fun _ _ h => h))
          have I8 := Lib.hid i8
          clear s8 S7 i8
          go_wp2_with fail
          refine (HRe2.out _ S8.out).mono ?_
          rintro e' V9 ⟨v9, rfl, i9, s9⟩
          have S9 := Lib.hid (S8.out.trans s9 (fun _ _ h => h))
          have HSm := Lib.hid (same_any (I8.out.still s9) i9 HRL.out)
          rw [decide_eq_true HF1.out] at HSm
          clear s9 S8 i9 I8
          go_wp2_with fail
          refine HSm.out.mono ?_
          rintro e' V10 ⟨rfl, s10⟩
          have HF := Lib.hid (((K5.out.trans S9.out (fun _ _ h => h.elim)).trans s10 (fun _ _ h => h.elim)).below (B := w.heap.size) (fun k hk => by omega) (Nat.le_refl _))
          clear s10 S9 HSm
          go_wp2
          go_ret
          exact ⟨rfl, HF.out⟩
end Go.Proofs.Ytnecmlkljijofaa
