/-
  segment.Plan.Inside.
-/
import Derived.Test.YtekhlaodlagbdaaGreatDoorSgW
import Derived.Test.YtekhlaodlagbdaaGreatDoorSgO
import Derived.LoopNIn
import Derived.Test.YtekhlaodlagbdaaGreatDoorLoop
namespace Go.Proofs.YtekhlaodlagbdaaGreatDoor
set_option maxRecDepth 100000
set_option linter.unusedSimpArgs false
open Go Go.RowKit
attribute [local go_sem] Oper.semAt_some

/-- The least so far, in memory. -/
structure InsI (b : Int) (acc : Int) (F q : Nat) (W0 : World) (xs : List (Nat × Nat)) (W : World) : Prop where
  blk : W.heap[q]? = some (.cells #[.int .i64 (Sg.leaF b xs acc)] 3 (0, 0))
  kp : Kept (fun k => k = q ∨ F ≤ k) W0 W
theorem InsI.from {b acc : Int} {F q : Nat} {W0 : World} (hq : q < F) : OwnFrom F (InsI b acc F q W0) := by
  rintro pre W W' row ⟨h1, h4⟩ hg hr
  have hqb : W'.heap[q]? = W.heap[q]? := hg.block q (blk_lt h1) (fun e => by have := (hr q e.symm).1; omega)
  exact ⟨hqb.trans h1, h4.grown hg (fun k e => .inl (.inr (hr k e).1))⟩
theorem InsI.take {b acc : Int} {F q : Nat} {W0 : World} {xs : List (Nat × Nat)} {A C : World} (h : InsI b acc F q W0 xs A) (hb : Below A.heap.size A C) : InsI b acc F q W0 xs C := by
  have hk : Kept (fun _ => False) A C := Kept.of_below hb (Nat.le_refl _)
  exact ⟨(hk.block q (blk_lt h.blk) id).trans h.blk, h.kp.trans hk (fun _ _ h => h.elim)⟩

theorem ins_store {b acc : Int} {F q : Nat} {W0 W : World} {pre : List (Nat × Nat)} {x : Nat × Nat} (h : Sg.leaF b (pre ++ [x]) acc = (x.1 : Int)) (h1 : W.heap[q]? = some (.cells #[.int .i64 (Sg.leaF b pre acc)] 3 (0, 0))) (h4 : Kept (fun k => k = q ∨ F ≤ k) W0 W) (hq : q < F) :
    roundEnd F (Kept fun k => k = q ∨ F ≤ k) (InsI b acc F q W0) (pre ++ [x]) W .normal { tmps := #[], defers := [] } (W.setCell ⟨q, 0, none⟩ (.int .i64 (x.1 : Int))) := by
  have hk : Kept (fun k => k = q ∨ F ≤ k) W (W.setCell ⟨q, 0, none⟩ (.int .i64 (x.1 : Int))) := (Kept.refl _ W).setCell (p := ⟨q, 0, none⟩) (.inl (.inl rfl)) _
  refine ⟨⟨hk.size, fun k o hk' ho hc => ?_⟩, hk, ⟨by rw [blk_set h1, h]; rfl, h4.trans hk (fun _ _ h => h)⟩⟩
  exact (Below.heap_setCell W ⟨q, 0, none⟩ _ k (fun e => by have e' : k = q := e; omega)).trans ho

set_option maxHeartbeats 4000000 in
theorem pins_same {bm gm cm R C p : Nat} {ms : List UInt8} {st : Sg.Pl} {w : World} (hP : PlanS bm gm cm R C ms p st w) {a b s : Nat} (ha : a < ms.length) (hb : b < ms.length) (hs : s < st.cells.length) (hoa : st.of.getD a 0 = (s : Int)) (hob : st.of.getD b 0 = (s : Int))
    (ham : a ∈ st.cells.getD s []) (hll : (st.cells.getD s []).length ≤ 1024) :
    Calls Tryz.prog 30 #[.pointer (some ⟨p, 0, none⟩), .int .i64 (a : Int), .int .i64 (b : Int)] w fun e w' => e = .returned (.int .i64 (Sg.insF (edgN R C ms) (st.cells.getD s []) a (b : Int))) ∧ Below w.heap.size w w' := by
  obtain ⟨i0, hi, hz0, hz1, hz2⟩ := info_parts Tryz.infoInt
  obtain ⟨bo, g, gl, cap, cl, hSc⟩ := seg_cells hP ha hs hoa (List.length_pos_of_mem ham)
  have HSg : Hid (∀ V, Below w.heap.size w V → ∀ x, x < ms.length → st.of.getD x 0 = (s : Int) → Calls Tryz.prog 23 #[.pointer (some ⟨p, 0, none⟩), .int .i64 (x : Int)] V fun e w' => e = .returned (.int .i64 (s : Int)) ∧ w' = V) := fun V hV x hx ho =>
    (pseg_any (hP.still hV) (x : Int) (by unfold segZ; rw [if_pos (by omega), Int.toNat_natCast, ho])).mono fun _ _ h => ⟨h.1, h.2.symm⟩
  have HSga := Lib.hid (fun V hV => HSg.out V hV a ha hoa)
  have HSgb := Lib.hid (fun V hV => HSg.out V hV b hb hob)
  have HSc := Lib.hid hSc
  have HA := Lib.hid ha
  have HM := Lib.hid ham
  clear HSg hP hob hSc hb hoa ha ham
  generalize st.cells.getD s [] = l at *
  generalize st.cells.length = ncell at *
  have d0 : decide ((s : Int) < 0) = false := decide_eq_false (by omega)
  have d1 : ((s : Int) != (s : Int)) = false := by simp
  refine (callsIn_wide (n := 9)).1 ?_
  refine callsIn_of_wp_marks Tryz.func30 rfl trivial ?_ rfl
  simp only [Tryz.ntmps30, List.size_toArray, List.length_cons, List.length_nil, Nat.reduceAdd, Nat.reduceSub, Array.replicate_succ, Array.replicate_zero, List.push_toArray, List.append_toArray, List.nil_append, List.cons_append]
  gi_wp2_with fail
  obtain ⟨w1, hw1⟩ : ∃ w1, w1 = w.alloc (.cells #[.int .i64 (b : Int)] 3) := ⟨_, rfl⟩
  rw [← hw1]
  have hk1 : Kept (fun _ => False) w w1 := by rw [hw1]; exact (Kept.refl _ w).alloc _
  have hz : w1.heap.size = w.heap.size + 1 := by rw [hw1]; simp
  have b0 : w1.heap[w.heap.size]? = some (.cells #[.int .i64 (b : Int)] 3 (0, 0)) := by rw [hw1]; exact World.alloc_heap_new w _
  have c0 : w1.cell? ⟨w.heap.size, 0, none⟩ = some (.int .i64 (b : Int)) := by rw [blk_cell b0]; rfl
  clear hw1
  have HB1 := Lib.hid (hk1.below (B := w.heap.size) (fun _ h => h.elim) (Nat.le_refl _))
  have HB1n : Hid (∀ n, Below w.heap.size w (w1.drewN n)) := fun n => ⟨HB1.out.os, HB1.out.tape, HB1.out.output, HB1.out.size, HB1.out.block⟩
  refine wpIn_region_quiet_lit rfl (by kernel_rfl) (by kernel_rfl) ?_
  repeat (gi_big_quiet_step (fail))
  refine BigFrame.wpQuietIn_want (fun _ _ _ _ => trivial) rfl (fun K hK => ?_)
  gi_big_quiet_op
  apply Exists.intro
  refine ⟨fun _ => ?_, hK _ ?_⟩
  · (gi_at_call 23; with_reducible exact CallsIn.quiet_of_same (callsIn_wide.2 (HSga.out _ (HB1n.out _))))
  clear hK K
  repeat (gi_big_quiet_step (fail))
  refine BigFrame.wpQuietIn_want (fun _ _ _ _ => trivial) rfl (fun K hK => ?_)
  gi_big_quiet_op
  apply Exists.intro
  refine ⟨fun _ => ?_, hK _ ?_⟩
  · (gi_at_call 23; with_reducible exact CallsIn.quiet_of_same (callsIn_wide.2 (HSga.out _ (HB1n.out _))))
  clear hK K
  repeat (gi_big_quiet_step (fail))
  refine BigFrame.wpQuietIn_want (fun _ _ _ _ => trivial) rfl (fun K hK => ?_)
  gi_big_quiet_op
  apply Exists.intro
  refine ⟨fun _ => ?_, hK _ ?_⟩
  · (gi_at_call 23; with_reducible exact CallsIn.quiet_of_same (callsIn_wide.2 (HSgb.out _ (HB1n.out _))))
  clear hK K
  repeat (gi_big_quiet_step (fail))
  refine wpQuietIn_nil ?_
  intro _ hw'
  obtain ⟨nq, hw''⟩ := hw'
  subst hw''
  gi_wp2
  obtain ⟨V1, hV1⟩ : ∃ V1, V1 = (w1.drewN nq).alloc (.cells #[.int .i64 (-1)] 3) := ⟨_, rfl⟩
  rw [← hV1]
  have hk2 : Kept (fun _ => False) w1 V1 := by rw [hV1]; exact ((Kept.refl _ w1).drewN nq).alloc _
  have z1 : V1.heap.size = w.heap.size + 2 := by rw [hV1]; simp; exact hz
  have bq1 : V1.heap[w.heap.size + 1]? = some (.cells #[.int .i64 (-1)] 3 (0, 0)) := by
    rw [hV1, ← hz]; exact World.alloc_heap_new (w1.drewN nq) _
  have bb1 : V1.cell? ⟨w.heap.size, 0, none⟩ = some (.int .i64 (b : Int)) := hk2.cell c0 id
  have hB1 : Below w.heap.size w V1 := HB1.out.trans (hk2.below (B := w.heap.size) (fun _ h => h.elim) (by omega))
  have z1' : w.heap.size + 2 ≤ V1.heap.size := by omega
  clear hV1 hk2 z1 HB1 HB1n HSga HSgb hk1 hz b0 c0 d0 d1
  have ix1 : ∀ w, (Instr.index 22 (.agg #[.int .i64 1, .int .i64 (-1)]) (.int .i64 0)).run Tryz.prog w = .ok (.int .i64 1) w := fun _ => by kernel_rfl
  have ix2 : ∀ w, (Instr.index 22 (.agg #[.int .i64 1, .int .i64 (-1)]) (.int .i64 1)).run Tryz.prog w = .ok (.int .i64 (-1)) w := fun _ => by kernel_rfl
  refine wpIn_loop_rounds 3 ?_
  rw [roundsIn_succ]
  gi_wp2_with fail
  refine ⟨trivial, (callsIn_wide.2 (along_any V1 p a 1)).mono ?_⟩
  rintro e X1 ⟨rfl, hX⟩
  have y1 : X1.heap.size = V1.heap.size + 3 := by rw [hX]; exact alongW_size _ _ _ _
  have hkX1 : Kept (fun _ => False) V1 X1 := by rw [hX]; exact alongW_kept _ _ _ _
  obtain ⟨g1, g2, g3⟩ := alongW_cells V1 p a 1
  rw [← hX] at g1 g2 g3
  clear hX
  have bX1 : X1.heap[w.heap.size + 1]? = some (.cells #[.int .i64 (-1)] 3 (0, 0)) := (hkX1.block _ (blk_lt bq1) id).trans bq1
  have bbX1 := hkX1.cell bb1 id
  have hBX1 : Below w.heap.size w X1 := hB1.trans (hkX1.below (B := w.heap.size) (fun _ h => h.elim) (by omega))
  gi_wp2_with fail
  have hT1 := along_tells (9 - 1) (by omega) hBX1 (q := w.heap.size + 1) (by omega) HSc.out g1 g2 g3 (by omega) (by omega) (by omega) HA.out hs HM.out hll (e := 1) (.inl ⟨rfl, rfl⟩)
  obtain ⟨L1, hL1⟩ : ∃ L, L = Sg.alF (edgN R C ms) l 1 (l.idxOf a) := ⟨_, rfl⟩
  rw [← hL1] at hT1
  clear g1 g2 g3
  refine range_state (by omega) (gf := 99) (lb := #[.pointer (some ⟨V1.heap.size, 0, none⟩), .pointer (some ⟨V1.heap.size + 1, 0, none⟩), .pointer (some ⟨V1.heap.size + 1 + 1, 0, none⟩)]) rfl (enters_of Tryz.func99 (by kernel_rfl) rfl)
    (encs := fun x : Nat × Nat => #[.int .i64 (x.1 : Int), .int .i64 (x.2 : Int)]) (fun _ => rfl) hT1 (Below.refl _ _)
    (fun A C ht => ⟨ht.size, fun k o _ ho hc => (ht.block k (blk_lt ho)).trans ho⟩) (fun h k => h.trans k (fun _ _ h => h))
    (fun W l' o o' hl' h1 h2 => ⟨rfl, rfl, rfl, by simp [World.putObj], fun k hk hx => World.putObj_heap_other (fun e => hx (.inr (by omega)))⟩)
    (InsI (b : Int) (-1) X1.heap.size (w.heap.size + 1) X1) (InsI.from (by omega)) (fun xs A C h ht => h.take ht) (fun xs A C row h _ _ => h) ⟨bX1, Kept.refl _ _⟩
    (fun x a' _ => a' = { tmps := #[.pointer (some ⟨p, 0, none⟩), .int .i64 (a : Int), .int .i64 (b : Int), undef, undef, .pointer (some ⟨w.heap.size, 0, none⟩), .int .i64 0, .pointer (some ⟨w.heap.size + 1, 0, none⟩), undef, .int .i64 1, .int .i64 (x.1 : Int), .int .i64 (x.2 : Int), .pointer (some ⟨p, 0, none⟩), .int .i64 (a : Int), .int .i64 (s : Int), .bool false, .bool false, .pointer (some ⟨p, 0, none⟩), .int .i64 (a : Int), .int .i64 (s : Int), .pointer (some ⟨p, 0, none⟩), .int .i64 (b : Int), .int .i64 (s : Int), .bool false, .bool false, .agg #[.int .i64 1, .int .i64 (-1)], .int .i64 0, .bool true, .int .i64 1, .pointer (some ⟨p, 0, none⟩), .int .i64 (a : Int), .int .i64 1, .func (.func 99) #[] #[.pointer (some ⟨V1.heap.size, 0, none⟩), .pointer (some ⟨V1.heap.size + 1, 0, none⟩), .pointer (some ⟨V1.heap.size + 1 + 1, 0, none⟩)], .int .i64 (x.1 : Int), .int .i64 (x.2 : Int), undef, undef, undef, undef, undef, undef, undef, undef, undef, undef, undef, undef, undef, undef, undef], defers := [] })
    (fun x a' _ A C row h _ _ => h) ?assign1 ?body1 ?done1
  case assign1 =>
    intro l' pre x W K hI hK
    gi_wp2
    exact hK _ _ (KeepsFrom.refl _ _) (Kept.refl _ _) hI rfl
  case body1 =>
    rintro l' pre x a' W hl' ⟨h1, h4⟩ rfl hlen
    have c5 : W.cell? ⟨w.heap.size, 0, none⟩ = some (.int .i64 (b : Int)) := h4.cell bbX1 (fun h => by have h' : w.heap.size = w.heap.size + 1 ∨ X1.heap.size ≤ w.heap.size := h; omega)
    have c7 : W.cell? ⟨w.heap.size + 1, 0, none⟩ = some (.int .i64 (Sg.leaF (b : Int) pre (-1))) := by rw [blk_cell h1]; rfl
    have f7 : W.frozen? ⟨w.heap.size + 1, 0, none⟩ = false := blk_free h1 0
    have hsn := Sg.leaF_snoc (b : Int) pre x (-1)
    have HN0 : Sg.leaF (b : Int) (pre ++ [x]) (-1) = Sg.leaF (b : Int) pre (-1) → Hid (roundEnd X1.heap.size (Kept fun k => k = w.heap.size + 1 ∨ X1.heap.size ≤ k) (InsI (b : Int) (-1) X1.heap.size (w.heap.size + 1) X1) (pre ++ [x]) W .normal { tmps := #[], defers := [] } W) := fun h => ⟨KeepsFrom.refl _ _, Kept.refl _ _, by rw [h]; exact h1, h4⟩
    have HN1 : Sg.leaF (b : Int) (pre ++ [x]) (-1) = (x.1 : Int) → Hid (roundEnd X1.heap.size (Kept fun k => k = w.heap.size + 1 ∨ X1.heap.size ≤ k) (InsI (b : Int) (-1) X1.heap.size (w.heap.size + 1) X1) (pre ++ [x]) W .normal { tmps := #[], defers := [] } (W.setCell ⟨w.heap.size + 1, 0, none⟩ (.int .i64 (x.1 : Int)))) := fun h => ins_store h h1 h4 (by omega)
    clear h1 h4 hT1 y1 hL1
    unfold Sg.lesF at hsn
    generalize Sg.leaF (b : Int) (pre ++ [x]) (-1) = nv at *
    generalize Sg.leaF (b : Int) pre (-1) = lv at *
    by_cases hxb : (x.2 : Int) = (b : Int)
    · have e1 : ((x.2 : Int) == (b : Int)) = true := by simp [hxb]
      by_cases h0 : lv < 0
      · have e2 : decide (lv < 0) = true := decide_eq_true h0
        have HZ := HN1 (by rw [hsn, if_pos ⟨hxb, .inl h0⟩])
        clear hsn hxb HN0 HN1
        gi_wp2
        exact HZ.out
      · have e2 : decide (lv < 0) = false := decide_eq_false h0
        by_cases h3 : (x.1 : Int) < lv
        · have e3 : decide ((x.1 : Int) < lv) = true := decide_eq_true h3
          have HZ := HN1 (by rw [hsn, if_pos ⟨hxb, .inr h3⟩])
          clear hsn hxb HN0 HN1
          gi_wp2
          exact HZ.out
        · have e3 : decide ((x.1 : Int) < lv) = false := decide_eq_false h3
          have HZ := HN0 (by rw [hsn, if_neg (fun h => h.2.elim h0 h3)])
          clear hsn hxb HN0 HN1
          gi_wp2
          exact HZ.out
    · have e1 : ((x.2 : Int) == (b : Int)) = false := by simpa using hxb
      have HZ := HN0 (by rw [hsn, if_neg (fun h => hxb h.1)])
      clear hsn hxb HN0 HN1
      gi_wp2
      exact HZ.out
  rintro D1 L1 V2 hD1 rfl ⟨h1, h4⟩ hK1
  have bq2 : V2.heap[w.heap.size + 1]? = some (.cells #[.int .i64 (Sg.leaF (b : Int) L1 (-1))] 3 (0, 0)) := h1
  have bb2 : V2.cell? ⟨w.heap.size, 0, none⟩ = some (.int .i64 (b : Int)) := h4.cell bbX1 (fun h => by have h' : w.heap.size = w.heap.size + 1 ∨ X1.heap.size ≤ w.heap.size := h; omega)
  have hB2 : Below w.heap.size w V2 := hBX1.trans (h4.below (fun k h => by rcases h with h | h <;> omega) (by omega))
  have z2' : w.heap.size + 2 ≤ V2.heap.size := by have := h4.size; omega
  clear h1 h4
  gi_wp2
  rw [roundsIn_succ]
  gi_wp2_with fail
  refine ⟨trivial, (callsIn_wide.2 (along_any V2 p a (-1))).mono ?_⟩
  rintro e X2 ⟨rfl, hX⟩
  have y2 : X2.heap.size = V2.heap.size + 3 := by rw [hX]; exact alongW_size _ _ _ _
  have hkX2 : Kept (fun _ => False) V2 X2 := by rw [hX]; exact alongW_kept _ _ _ _
  obtain ⟨g1, g2, g3⟩ := alongW_cells V2 p a (-1)
  rw [← hX] at g1 g2 g3
  clear hX
  have bX2 : X2.heap[w.heap.size + 1]? = some (.cells #[.int .i64 (Sg.leaF (b : Int) L1 (-1))] 3 (0, 0)) := (hkX2.block _ (blk_lt bq2) id).trans bq2
  have bbX2 := hkX2.cell bb2 id
  have hBX2 : Below w.heap.size w X2 := hB2.trans (hkX2.below (B := w.heap.size) (fun _ h => h.elim) (by omega))
  gi_wp2_with fail
  have hT2 := along_tells (9 - 1) (by omega) hBX2 (q := w.heap.size + 1) (by omega) HSc.out g1 g2 g3 (by omega) (by omega) (by omega) HA.out hs HM.out hll (e := (l.length - 1)) (.inr ⟨rfl, rfl⟩)
  obtain ⟨L2, hL2⟩ : ∃ L, L = Sg.alF (edgN R C ms) l (l.length - 1) (l.idxOf a) := ⟨_, rfl⟩
  rw [← hL2] at hT2
  clear g1 g2 g3
  refine range_state (by omega) (gf := 99) (lb := #[.pointer (some ⟨V2.heap.size, 0, none⟩), .pointer (some ⟨V2.heap.size + 1, 0, none⟩), .pointer (some ⟨V2.heap.size + 1 + 1, 0, none⟩)]) rfl (enters_of Tryz.func99 (by kernel_rfl) rfl)
    (encs := fun x : Nat × Nat => #[.int .i64 (x.1 : Int), .int .i64 (x.2 : Int)]) (fun _ => rfl) hT2 (Below.refl _ _)
    (fun A C ht => ⟨ht.size, fun k o _ ho hc => (ht.block k (blk_lt ho)).trans ho⟩) (fun h k => h.trans k (fun _ _ h => h))
    (fun W l' o o' hl' h1 h2 => ⟨rfl, rfl, rfl, by simp [World.putObj], fun k hk hx => World.putObj_heap_other (fun e => hx (.inr (by omega)))⟩)
    (InsI (b : Int) (Sg.leaF (b : Int) L1 (-1)) X2.heap.size (w.heap.size + 1) X2) (InsI.from (by omega)) (fun xs A C h ht => h.take ht) (fun xs A C row h _ _ => h) ⟨bX2, Kept.refl _ _⟩
    (fun x a' _ => a' = { tmps := #[.pointer (some ⟨p, 0, none⟩), .int .i64 (a : Int), .int .i64 (b : Int), undef, undef, .pointer (some ⟨w.heap.size, 0, none⟩), .int .i64 0, .pointer (some ⟨w.heap.size + 1, 0, none⟩), undef, .int .i64 (-1), .int .i64 (x.1 : Int), .int .i64 (x.2 : Int), .pointer (some ⟨p, 0, none⟩), .int .i64 (a : Int), .int .i64 (s : Int), .bool false, .bool false, .pointer (some ⟨p, 0, none⟩), .int .i64 (a : Int), .int .i64 (s : Int), .pointer (some ⟨p, 0, none⟩), .int .i64 (b : Int), .int .i64 (s : Int), .bool false, .bool false, .agg #[.int .i64 1, .int .i64 (-1)], .int .i64 1, .bool true, .int .i64 (-1), .pointer (some ⟨p, 0, none⟩), .int .i64 (a : Int), .int .i64 (-1), .func (.func 99) #[] #[.pointer (some ⟨V2.heap.size, 0, none⟩), .pointer (some ⟨V2.heap.size + 1, 0, none⟩), .pointer (some ⟨V2.heap.size + 1 + 1, 0, none⟩)], .int .i64 (x.1 : Int), .int .i64 (x.2 : Int), undef, undef, undef, undef, undef, undef, undef, undef, undef, undef, undef, undef, undef, .int .i64 1, undef], defers := [] })
    (fun x a' _ A C row h _ _ => h) ?assign2 ?body2 ?done2
  case assign2 =>
    intro l' pre x W K hI hK
    gi_wp2
    exact hK _ _ (KeepsFrom.refl _ _) (Kept.refl _ _) hI rfl
  case body2 =>
    rintro l' pre x a' W hl' ⟨h1, h4⟩ rfl hlen
    have c5 : W.cell? ⟨w.heap.size, 0, none⟩ = some (.int .i64 (b : Int)) := h4.cell bbX2 (fun h => by have h' : w.heap.size = w.heap.size + 1 ∨ X2.heap.size ≤ w.heap.size := h; omega)
    have c7 : W.cell? ⟨w.heap.size + 1, 0, none⟩ = some (.int .i64 (Sg.leaF (b : Int) pre (Sg.leaF (b : Int) L1 (-1)))) := by rw [blk_cell h1]; rfl
    have f7 : W.frozen? ⟨w.heap.size + 1, 0, none⟩ = false := blk_free h1 0
    have hsn := Sg.leaF_snoc (b : Int) pre x (Sg.leaF (b : Int) L1 (-1))
    have HN0 : Sg.leaF (b : Int) (pre ++ [x]) (Sg.leaF (b : Int) L1 (-1)) = Sg.leaF (b : Int) pre (Sg.leaF (b : Int) L1 (-1)) → Hid (roundEnd X2.heap.size (Kept fun k => k = w.heap.size + 1 ∨ X2.heap.size ≤ k) (InsI (b : Int) (Sg.leaF (b : Int) L1 (-1)) X2.heap.size (w.heap.size + 1) X2) (pre ++ [x]) W .normal { tmps := #[], defers := [] } W) := fun h => ⟨KeepsFrom.refl _ _, Kept.refl _ _, by rw [h]; exact h1, h4⟩
    have HN1 : Sg.leaF (b : Int) (pre ++ [x]) (Sg.leaF (b : Int) L1 (-1)) = (x.1 : Int) → Hid (roundEnd X2.heap.size (Kept fun k => k = w.heap.size + 1 ∨ X2.heap.size ≤ k) (InsI (b : Int) (Sg.leaF (b : Int) L1 (-1)) X2.heap.size (w.heap.size + 1) X2) (pre ++ [x]) W .normal { tmps := #[], defers := [] } (W.setCell ⟨w.heap.size + 1, 0, none⟩ (.int .i64 (x.1 : Int)))) := fun h => ins_store h h1 h4 (by omega)
    clear h1 h4 hT2 y1 y2 hL1 hL2 hT1 hD1
    unfold Sg.lesF at hsn
    generalize Sg.leaF (b : Int) (pre ++ [x]) (Sg.leaF (b : Int) L1 (-1)) = nv at *
    generalize Sg.leaF (b : Int) pre (Sg.leaF (b : Int) L1 (-1)) = lv at *
    by_cases hxb : (x.2 : Int) = (b : Int)
    · have e1 : ((x.2 : Int) == (b : Int)) = true := by simp [hxb]
      by_cases h0 : lv < 0
      · have e2 : decide (lv < 0) = true := decide_eq_true h0
        have HZ := HN1 (by rw [hsn, if_pos ⟨hxb, .inl h0⟩])
        clear hsn hxb HN0 HN1
        gi_wp2
        exact HZ.out
      · have e2 : decide (lv < 0) = false := decide_eq_false h0
        by_cases h3 : (x.1 : Int) < lv
        · have e3 : decide ((x.1 : Int) < lv) = true := decide_eq_true h3
          have HZ := HN1 (by rw [hsn, if_pos ⟨hxb, .inr h3⟩])
          clear hsn hxb HN0 HN1
          gi_wp2
          exact HZ.out
        · have e3 : decide ((x.1 : Int) < lv) = false := decide_eq_false h3
          have HZ := HN0 (by rw [hsn, if_neg (fun h => h.2.elim h0 h3)])
          clear hsn hxb HN0 HN1
          gi_wp2
          exact HZ.out
    · have e1 : ((x.2 : Int) == (b : Int)) = false := by simpa using hxb
      have HZ := HN0 (by rw [hsn, if_neg (fun h => hxb h.1)])
      clear hsn hxb HN0 HN1
      gi_wp2
      exact HZ.out
  rintro D2 L2 V3 hD2 rfl ⟨h1, h4⟩ hK2
  gi_wp2
  have hD1' : X2.heap[D1]? = some (.deferred (some [])) := (hkX2.block _ (blk_lt hK1) id).trans hK1
  have hlt1 := blk_lt hD1'
  have hlt2 := blk_lt hK2
  have hD1'' : V3.heap[D1]? = some (.deferred (some [])) := (h4.block _ hlt1 (fun h => by have h' : D1 = w.heap.size + 1 ∨ X2.heap.size ≤ D1 := h; omega)).trans hD1'
  have hD1 : (V3.putObj D2 (.deferred none)).heap[D1]? = some (.deferred (some [])) := (World.putObj_heap_other (by omega)).trans hD1''
  have c7 : V3.cell? ⟨w.heap.size + 1, 0, none⟩ = some (.int .i64 (Sg.insF (edgN R C ms) l a (b : Int))) := by
    rw [blk_cell h1]
    unfold Sg.insF
    rw [← hL1, ← hL2]
    rfl
  have hB3 : Below w.heap.size w V3 := hBX2.trans (h4.below (fun k h => by rcases h with h | h <;> omega) (by omega))
  have HFin : Hid (Below w.heap.size w ((V3.putObj D2 (.deferred none)).putObj D1 (.deferred none))) := by
    refine ⟨hB3.os, hB3.tape, hB3.output, by simpa [World.putObj] using hB3.size, fun k hk => ?_⟩
    exact (World.putObj_heap_other (by omega)).trans ((World.putObj_heap_other (by omega)).trans (hB3.block k hk))
  clear h1 h4 hT1 hT2
  rw [roundsIn_succ]
  gi_wp2
  refine ⟨by simp, .inl ⟨_, _, rfl, run_takeDeferred hK2, ?_⟩⟩
  refine ⟨by simp, .inl ⟨_, _, rfl, run_takeDeferred hD1, ?_⟩⟩
  exact ⟨_, by simp [results, Tryz.results30, go_sem], rfl, HFin.out⟩
end Go.Proofs.YtekhlaodlagbdaaGreatDoor
