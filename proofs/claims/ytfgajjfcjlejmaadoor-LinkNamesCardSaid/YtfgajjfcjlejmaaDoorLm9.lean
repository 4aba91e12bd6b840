/- Joined texts: Lm8, Lm9. -/
import Derived.Test.YtfgajjfcjlejmaaDoorLm7
import Derived.Test.YtfgajjfcjlejmaaDoorTk

/-
  The chapter's example holds.
-/
namespace Go.Proofs.YtfgajjfcjlejmaaDoor
set_option maxRecDepth 100000
set_option linter.unusedSimpArgs false
open Go Go.RowKit Wr
attribute [local go_sem] Oper.semAt_some

theorem ms_new (W : World) (n : Int) : MsAt (W.alloc (.cells #[.int .i64 3, .int .i64 n, .int .u32 1, .int .u64 0, .int .i64 0, .int .i64 0, .int .i64 0, .int .i64 0, .slice none 0 0] 37)) (some ⟨W.heap.size, 0, none⟩) [freeM n] := by
  intro k hk
  have hk0 : k = 0 := by simp at hk; omega
  subst hk0
  have h := World.alloc_heap_new W (.cells #[.int .i64 3, .int .i64 n, .int .u32 1, .int .u64 0, .int .i64 0, .int .i64 0, .int .i64 0, .int .i64 0, .slice none 0 0] 37)
  refine ⟨W.heap.size, none, 0, rfl, ?_, fun k hk => (by simp [freeM] at hk), (by simp [freeM])⟩
  refine ⟨?_, ?_, ?_, ?_, ?_, ?_, ?_, ?_, ?_⟩ <;> (rw [blk_cell h]; rfl)

set_option maxHeartbeats 8000000 in
theorem al_any {w : World} (hL : Lay w) : Calls Tryd.prog 28 #[] w fun e w' => e = .returned (.bool true) ∧ Below w.heap.size w w' := by
  obtain ⟨P, hP⟩ : ∃ P : Ending → World → Prop, P = fun e w' => e = .returned (.bool true) ∧ Below w.heap.size w w' := ⟨_, rfl⟩
  have HP : Hid (∀ W, Below w.heap.size w W → P (.returned (.bool true)) W) := by rw [hP]; exact fun W h => ⟨rfl, h⟩
  rw [← hP]
  clear hP
  have HL := Lib.hid hL
  have KT := Lib.hid (two_any hL)
  clear hL
  go_enter Tryd.func28, Tryd.ntmps28
  go_wp2_with fail
  refine KT.out.mono ?_
  rintro e w1 ⟨a, b, rfl, T1, Sa1, Sb1, hp⟩
  have HP1 := Lib.hid hp
  clear hp KT
  go_wp2_with fail
  refine (al_free _ 7).mono ?_
  rintro e w2 ⟨rfl, hb⟩
  have HB2 := Lib.hid hb
  clear hb
  go_wp2_with fail
  refine (al_send HL.out (HP1.out.below HB2.out)).mono ?_
  rintro e w3 ⟨A, c, rfl, Sa3, ht, hp, hc⟩
  have hbx : Below w3.heap.size w3 (w3.alloc (.cells #[.int .i64 1, .int .i64 2, .int .u32 1, .int .u32 5, .int .u32 1, .int .u32 0, .int .i64 3, .int .i64 7, .int .u32 1, .int .u64 0, .int .i64 0, .int .i64 0, .int .i64 0, .int .i64 0, .slice A 0 c] 39)) := (Below.refl _ w3).alloc (Nat.le_refl _) _
  have hbp := Bx.new hp #[.int .i64 1, .int .i64 2, .int .u32 1, .int .u32 5, .int .u32 1, .int .u32 0, .int .i64 3, .int .i64 7, .int .u32 1, .int .u64 0, .int .i64 0, .int .i64 0, .int .i64 0, .int .i64 0, .slice A 0 c] 39
  have HP3 := Lib.hid (hp.below hbx)
  have HC3 := Lib.hid (hc.below hbx)
  obtain ⟨⟨p0, p1, p2, p3, p4, p5, p6, p7, p8, p9, p10, p11, p12, p13, p14⟩, _⟩ := pk_cells hbp.1
  have HXP3 := Lib.hid hbp
  clear ht hp hc hbx hbp HP1 HB2
  go_wp2_with fail
  clear p0 p1 p2 p3 p4 p5 p6 p7 p8 p9 p10 p11 p12 p13 p14
  refine (al_take1 HL.out HP3.out HC3.out).mono ?_
  rintro e w4 ⟨Au, cu, g, c2, A2, k2, rfl, Sb4, ht, hp, hc, hm, hr⟩
  have hbx : Below w4.heap.size w4 (w4.alloc (.cells #[.slice Au 1 cu, .slice (some ⟨g, 0, none⟩) 1 c2, .bool false] 52)) := (Below.refl _ w4).alloc (Nat.le_refl _) _
  have hbp := ((HXP3.out.swap.step ht.kp ht.fr).swap).below hbx
  have hbt := Bx.new hp #[.slice Au 1 cu, .slice (some ⟨g, 0, none⟩) 1 c2, .bool false] 52
  obtain ⟨⟨p0, p1, p2, p3, p4, p5, p6, p7, p8, p9, p10, p11, p12, p13, p14⟩, _⟩ := pk_cells hbp.1
  have HP4 := Lib.hid (hp.below hbx)
  have HC4 := Lib.hid (hc.below hbx)
  have HM4 := Lib.hid (hm.below hbx)
  have HR4 := Lib.hid (hr.below hbx)
  have HXP4 := Lib.hid hbp
  have HXT4 := Lib.hid hbt
  clear ht hp hc hm hr hbx hbp hbt HP3 HC3 HXP3
  go_wp2_with fail
  clear p0 p1 p2 p3 p4 p5 p6 p7 p8 p9 p10 p11 p12 p13 p14
  refine (al_take2 HL.out HP4.out HC4.out).mono ?_
  rintro e w5 ⟨Au2, cu2, Ab, cb, rfl, Sb5, ht, hp⟩
  have hbx : Below w5.heap.size w5 (w5.alloc (.cells #[.slice Au2 0 cu2, .slice Ab 1 cb, .bool false] 52)) := (Below.refl _ w5).alloc (Nat.le_refl _) _
  have hst := HP4.out.lb.st
  have hbp := ((HXP4.out.swap.step ht.kp ht.fr).swap).below hbx
  have hbt := ((HXT4.out.swap.step ht.kp ht.fr).swap).below hbx
  have hm := ((HM4.out.swap.step ht.kp hst ht.fr).swap).below hbx
  have hr := ((HR4.out.swap.step ht.kp hst ht.fr).swap).below hbx
  have hbu := Bx.new hp #[.slice Au2 0 cu2, .slice Ab 1 cb, .bool false] 52
  obtain ⟨⟨b0, b1, b2⟩, _⟩ := athree hbt.1
  obtain ⟨d0, d1, d2, d3, d4, d5, d6, d7, d8, d9, d10, d11, d12, d13, d14⟩ := hr.1.cells.fifteen
  simp only [Lk.pK, Lk.bareM] at d0 d1 d2 d3 d4 d5 d6 d7 d8 d9 d10 d11 d12 d13 d14
  have HP5 := Lib.hid (hp.below hbx)
  have HM5 := Lib.hid hm
  have HR5 := Lib.hid hr
  have HXP5 := Lib.hid hbp
  have HXT5 := Lib.hid hbt
  have HXU5 := Lib.hid hbu
  clear ht hp hm hr hbx hbp hbt hbu hst HP4 HC4 HM4 HR4 HXP4 HXT4
  go_wp2_with fail
  clear d0 d1 d2 d3 d4 d5 d6 d7 d8 d9 d10 d11 d12 d13 d14 b0 b1 b2
  refine (al_take3 HL.out HP5.out HR5.out.1.cl).mono ?_
  rintro e w6 ⟨Au3, cu3, Ab3, cb3, rfl, Sa6, ht, hp⟩
  have hbx : Below w6.heap.size w6 (w6.alloc (.cells #[.slice Au3 0 cu3, .slice Ab3 0 cb3, .bool false] 52)) := (Below.refl _ w6).alloc (Nat.le_refl _) _
  have hst := HP5.out.la.st
  have hbp := (HXP5.out.step ht.kp ht.fr).below hbx
  have hbt := (HXT5.out.step ht.kp ht.fr).below hbx
  have hbu := (HXU5.out.step ht.kp ht.fr).below hbx
  have hm := (HM5.out.step ht.kp hst ht.fr).below hbx
  have hr := (HR5.out.step ht.kp hst ht.fr).below hbx
  have hbv := (Bx.new hp #[.slice Au3 0 cu3, .slice Ab3 0 cb3, .bool false] 52).1
  have hpv := hp.below hbx
  go_wp2_with fail
  obtain ⟨W, hW⟩ : ∃ W, w6.alloc (.cells #[.slice Au3 0 cu3, .slice Ab3 0 cb3, .bool false] 52) = W := ⟨_, rfl⟩
  rw [hW] at hbp hbt hbu hm hr hbv hpv ⊢
  clear hW hbx hp ht hst HP5 HM5 HR5 HXP5 HXT5 HXU5
  have HXP : Hid (∀ V, Below W.heap.size W V → V.cell? ⟨w3.heap.size, 4, none⟩ = some (.int .u32 1)) := fun V h => by rw [blk_cell ((h.block _ (blk_lt hbp.1)).trans hbp.1)]; rfl
  have HXT : Hid (∀ V, Below W.heap.size W V → V.cell? ⟨w4.heap.size, 0, none⟩ = some (.slice Au 1 cu) ∧ V.cell? ⟨w4.heap.size, 1, none⟩ = some (.slice (some ⟨g, 0, none⟩) 1 c2)) := fun V h => by constructor <;> (rw [blk_cell ((h.block _ (blk_lt hbt.1)).trans hbt.1)]; rfl)
  have HXU : Hid (∀ V, Below W.heap.size W V → V.cell? ⟨w5.heap.size, 0, none⟩ = some (.slice Au2 0 cu2) ∧ V.cell? ⟨w5.heap.size, 1, none⟩ = some (.slice Ab 1 cb)) := fun V h => by constructor <;> (rw [blk_cell ((h.block _ (blk_lt hbu.1)).trans hbu.1)]; rfl)
  have HXV : Hid (∀ V, Below W.heap.size W V → V.cell? ⟨w6.heap.size, 0, none⟩ = some (.slice Au3 0 cu3) ∧ V.cell? ⟨w6.heap.size, 1, none⟩ = some (.slice Ab3 0 cb3)) := fun V h => by constructor <;> (rw [blk_cell ((h.block _ (blk_lt hbv)).trans hbv)]; rfl)
  have HXG : Hid (∀ V, Below W.heap.size W V → V.cell? ⟨g, 5, none⟩ = some (.int .u32 1)) := fun V h => (hr.below h).1.cells.fifteen.2.2.2.2.2.1
  have KF : Hid (∀ V, Below W.heap.size W V → Calls Tryd.prog 27 #[.int .i64 7] V fun e w' => e = .returned (frV 7) ∧ Below W.heap.size W w') := fun V h => (al_free V 7).mono fun e w' hh => ⟨hh.1, h.trans (hh.2.mono h.size)⟩
  have HBS : Hid (∀ V, Below W.heap.size W V → Below W.heap.size W (V.alloc (.cells #[.int .i64 3, .int .i64 7, .int .u32 1, .int .u64 0, .int .i64 0, .int .i64 0, .int .i64 0, .int .i64 0, .slice none 0 0] 37))) := fun V h => h.alloc h.size _
  have KM : Hid (∀ V, Below W.heap.size W V → Calls Tryd.prog 19 #[.slice Au 1 cu, .slice (some ⟨V.heap.size, 0, none⟩) 1 1] (V.alloc (.cells #[.int .i64 3, .int .i64 7, .int .u32 1, .int .u64 0, .int .i64 0, .int .i64 0, .int .i64 0, .int .i64 0, .slice none 0 0] 37)) fun e w' => e = .returned (.bool true) ∧ Below W.heap.size W w') := fun V h => by
    obtain ⟨A', c', e1, hA⟩ := (hm.1).at_ (fun m hm' => by rw [List.mem_singleton] at hm'; subst hm'; show (0 : Nat) ≤ 100000; decide)
    cases e1
    have hv := HBS.out V h
    refine (msgs_any (L := [freeM 7]) (M := [freeM 7]) cu 1 (hA.below hv) (ms_new V 7) (by decide)).mono ?_
    rintro e w' ⟨rfl, hb'⟩
    exact ⟨by rw [decide_eq_true (rfl : [freeM 7] = [freeM 7])], hv.trans (hb'.mono hv.size)⟩
  have KW : Hid (∀ V, Below W.heap.size W V → Calls Tryd.prog 24 #[.pointer (some ⟨a, 0, none⟩)] V fun e w' => ∃ A c, e = .returned (.slice A 0 c) ∧ Below W.heap.size W w') := fun V h => by
    refine (waiting_any (hpv.below h).la Lk.okA3).mono ?_
    rintro e w' ⟨v, rfl, hb', hv⟩
    obtain ⟨A', c', rfl⟩ := (hv (fun _ => False) (fun _ h => h.elim)).shape
    exact ⟨A', c', rfl, h.trans (hb'.mono h.size)⟩
  have HFB : Hid (∀ V, Below W.heap.size W V → P (.returned (.bool true)) V) := fun V h => HP.out V (hpv.bl.trans (h.mono hpv.bl.size))
  have d0 : Below W.heap.size W W.drew := (Below.refl _ W).drew
  clear hbp hbt hbu hbv hm hr hpv HP HL
  refine wp_region_held_drew (S := Below W.heap.size W) (by kernel_rfl) d0 (fun hHeld => ?_)
  simp only [List.size_toArray, List.append_eq, List.length_cons, List.length_nil, Nat.reduceAdd, Array.replicate_succ, Array.replicate_zero, List.push_toArray, List.nil_append, List.cons_append, List.append_toArray]
  refine take_op (i := 0) (v := ?_) rfl (by kernel_rfl) (by kernel_rfl) (by kernel_rfl) (fun _ _ _ h => h) (Or.inl ⟨by rfl, ?_⟩) (by assumption) ?_
  rotate_left
  · (intro w' hSw; (try dsimp only at hSw); go_simp; (try with_reducible rfl))
  simp only [Act.put, List.setIfInBounds_toArray, List.set_cons_zero, List.set_cons_succ]
  refine take_op (i := 1) (v := ?_) rfl (by kernel_rfl) (by kernel_rfl) (by kernel_rfl) (fun _ _ _ h => h) (Or.inl ⟨by rfl, ?_⟩) (by assumption) ?_
  rotate_left
  · (intro w' hSw; (try dsimp only at hSw); go_simp; (try with_reducible rfl))
  simp only [Act.put, List.setIfInBounds_toArray, List.set_cons_zero, List.set_cons_succ]
  refine take_op (i := 2) (v := ?_) rfl (by kernel_rfl) (by kernel_rfl) (by kernel_rfl) (fun _ _ _ h => h) (Or.inl ⟨by rfl, ?_⟩) (by assumption) ?_
  rotate_left
  · (intro w' hSw; (try dsimp only at hSw); go_simp; (try with_reducible rfl))
  simp only [Act.put, List.setIfInBounds_toArray, List.set_cons_zero, List.set_cons_succ]
  refine take_op (i := 3) (v := ?_) rfl (by kernel_rfl) (by kernel_rfl) (by kernel_rfl) (fun _ _ _ h => h) (Or.inl ⟨by rfl, ?_⟩) (by assumption) ?_
  rotate_left
  · (intro w' hSw; (try dsimp only at hSw); go_simp; (try with_reducible rfl))
  simp only [Act.put, List.setIfInBounds_toArray, List.set_cons_zero, List.set_cons_succ]
  refine take_op (i := 4) (v := ?_) rfl (by kernel_rfl) (by kernel_rfl) (by kernel_rfl) (fun _ _ _ h => h) (Or.inl ⟨by rfl, ?_⟩) (by assumption) ?_
  rotate_left
  · (intro w' hSw; (try dsimp only at hSw); go_simp; (try with_reducible rfl))
  simp only [Act.put, List.setIfInBounds_toArray, List.set_cons_zero, List.set_cons_succ]
  refine take_op (i := 5) (v := ?_) rfl (by kernel_rfl) (by kernel_rfl) (by kernel_rfl) (fun _ _ _ h => h) (Or.inl ⟨by rfl, ?_⟩) (by assumption) ?_
  rotate_left
  · (intro w' hSw; (try dsimp only at hSw); go_simp; (try with_reducible rfl))
  simp only [Act.put, List.setIfInBounds_toArray, List.set_cons_zero, List.set_cons_succ]
  refine take_op (i := 6) (v := ?_) rfl (by kernel_rfl) (by kernel_rfl) (by kernel_rfl) (fun _ _ _ h => h) (Or.inl ⟨by rfl, ?_⟩) (by assumption) ?_
  rotate_left
  · (intro w' hSw; (try dsimp only at hSw); go_simp; (try with_reducible rfl))
  simp only [Act.put, List.setIfInBounds_toArray, List.set_cons_zero, List.set_cons_succ]
  refine take_op (i := 7) (v := ?_) rfl (by kernel_rfl) (by kernel_rfl) (by kernel_rfl) (fun _ _ _ h => h) (Or.inl ⟨by rfl, ?_⟩) (by assumption) ?_
  rotate_left
  · (intro w' hSw; (try dsimp only at hSw); go_simp; (try with_reducible rfl))
  simp only [Act.put, List.setIfInBounds_toArray, List.set_cons_zero, List.set_cons_succ]
  refine take_op (i := 8) (v := ?_) rfl (by kernel_rfl) (by kernel_rfl) (by kernel_rfl) (fun _ _ _ h => h) (Or.inl ⟨by rfl, ?_⟩) (by assumption) ?_
  rotate_left
  · (intro w' hSw; (try dsimp only at hSw); go_simp; (try with_reducible rfl))
  simp only [Act.put, List.setIfInBounds_toArray, List.set_cons_zero, List.set_cons_succ]
  refine take_op (i := 9) (v := ?_) rfl (by kernel_rfl) (by kernel_rfl) (by kernel_rfl) (fun _ _ _ h => h) (Or.inl ⟨by rfl, ?_⟩) (by assumption) ?_
  rotate_left
  · (intro w' hSw; (try dsimp only at hSw); go_simp; (try with_reducible rfl))
  simp only [Act.put, List.setIfInBounds_toArray, List.set_cons_zero, List.set_cons_succ]
  refine take_op (i := 10) (v := ?_) rfl (by kernel_rfl) (by kernel_rfl) (by kernel_rfl) (fun _ _ _ h => h) (Or.inl ⟨by rfl, ?_⟩) (by assumption) ?_
  rotate_left
  · (intro w' hSw; (try dsimp only at hSw); go_simp; (try with_reducible rfl))
  simp only [Act.put, List.setIfInBounds_toArray, List.set_cons_zero, List.set_cons_succ]
  refine take_op (i := 11) (v := ?_) rfl (by kernel_rfl) (by kernel_rfl) (by kernel_rfl) (fun _ _ _ h => h) (Or.inl ⟨by rfl, ?_⟩) (by assumption) ?_
  rotate_left
  · (intro w' hSw; (try dsimp only at hSw); go_simp; (try with_reducible rfl))
  simp only [Act.put, List.setIfInBounds_toArray, List.set_cons_zero, List.set_cons_succ]
  refine take_op (i := 12) (v := ?_) rfl (by kernel_rfl) (by kernel_rfl) (by kernel_rfl) (fun _ _ _ h => h) (Or.inl ⟨by rfl, ?_⟩) (by assumption) ?_
  rotate_left
  · (intro w' hSw; (try dsimp only at hSw); go_simp; (try with_reducible rfl))
  simp only [Act.put, List.setIfInBounds_toArray, List.set_cons_zero, List.set_cons_succ]
  refine take_op (i := 13) (v := ?_) rfl (by kernel_rfl) (by kernel_rfl) (by kernel_rfl) (fun _ _ _ h => h) (Or.inl ⟨by rfl, ?_⟩) (by assumption) ?_
  rotate_left
  · (intro w' hSw; (try dsimp only at hSw); go_simp; (try with_reducible rfl))
  simp only [Act.put, List.setIfInBounds_toArray, List.set_cons_zero, List.set_cons_succ]
  refine take_op (i := 14) (v := ?_) rfl (by kernel_rfl) (by kernel_rfl) (by kernel_rfl) (fun _ _ _ h => h) (Or.inl ⟨by rfl, ?_⟩) (by assumption) ?_
  rotate_left
  · (intro w' hSw; (try dsimp only at hSw); go_simp; (try with_reducible rfl))
  simp only [Act.put, List.setIfInBounds_toArray, List.set_cons_zero, List.set_cons_succ]
  refine take_op (i := 15) (v := ?_) rfl (by kernel_rfl) (by kernel_rfl) (by kernel_rfl) (fun _ _ _ h => h) (Or.inl ⟨by rfl, ?_⟩) (by assumption) ?_
  rotate_left
  · (intro w' hSw; (try dsimp only at hSw); go_simp; (try with_reducible rfl))
  simp only [Act.put, List.setIfInBounds_toArray, List.set_cons_zero, List.set_cons_succ]
  refine take_op (i := 16) (v := ?_) rfl (by kernel_rfl) (by kernel_rfl) (by kernel_rfl) (fun _ _ _ h => h) (Or.inl ⟨by rfl, ?_⟩) (by assumption) ?_
  rotate_left
  · (intro w' hSw; have q4 := HXP.out _ hSw; go_simp; (try with_reducible rfl))
  simp only [Act.put, List.setIfInBounds_toArray, List.set_cons_zero, List.set_cons_succ]
  refine take_op (i := 17) (v := ?_) rfl (by kernel_rfl) (by kernel_rfl) (by kernel_rfl) (fun _ _ _ h => h) (Or.inl ⟨by rfl, ?_⟩) (by assumption) ?_
  rotate_left
  · (intro w' hSw; (try dsimp only at hSw); go_simp; (try with_reducible rfl))
  simp only [Act.put, List.setIfInBounds_toArray, List.set_cons_zero, List.set_cons_succ]
  refine take_op (i := 18) (v := ?_) rfl (by kernel_rfl) (by kernel_rfl) (by kernel_rfl) (fun _ _ _ h => h) (Or.inl ⟨by rfl, ?_⟩) (by assumption) ?_
  rotate_left
  · (intro w' hSw; (try dsimp only at hSw); go_simp; (try with_reducible rfl))
  simp only [Act.put, List.setIfInBounds_toArray, List.set_cons_zero, List.set_cons_succ]
  refine take_op (i := 19) (v := ?_) rfl (by kernel_rfl) (by kernel_rfl) (by kernel_rfl) (fun _ _ _ h => h) (Or.inl ⟨by rfl, ?_⟩) (by assumption) ?_
  rotate_left
  · (intro w' hSw; (try dsimp only at hSw); go_simp; (try with_reducible rfl))
  simp only [Act.put, List.setIfInBounds_toArray, List.set_cons_zero, List.set_cons_succ]
  refine take_op (i := 20) (v := ?_) rfl (by kernel_rfl) (by kernel_rfl) (by kernel_rfl) (fun _ _ _ h => h) (Or.inl ⟨by rfl, ?_⟩) (by assumption) ?_
  rotate_left
  · (intro w' hSw; (try dsimp only at hSw); go_simp; (try with_reducible rfl))
  simp only [Act.put, List.setIfInBounds_toArray, List.set_cons_zero, List.set_cons_succ]
  refine take_op (i := 21) (v := ?_) rfl (by kernel_rfl) (by kernel_rfl) (by kernel_rfl) (fun _ _ _ h => h) (Or.inl ⟨by rfl, ?_⟩) (by assumption) ?_
  rotate_left
  · (intro w' hSw; obtain ⟨q0, q1⟩ := HXT.out _ hSw; go_simp; (try with_reducible rfl))
  simp only [Act.put, List.setIfInBounds_toArray, List.set_cons_zero, List.set_cons_succ]
  refine wpAnyH_ready (rs := [22]) (by kernel_rfl) (by simp) ?_
  refine cons_op rfl (fun K hK => ?_) AllReadyH.nil
  go_simp
  refine (KF.out _ d0).mono ?_
  rintro e w22 ⟨rfl, hb22⟩
  (try go_wp2_with fail)
  refine hK.out _ _ hb22 (fun hHeld => ?_)
  clear hK K
  (try simp only [Act.put, List.setIfInBounds_toArray, List.set_cons_zero, List.set_cons_succ])
  refine wpAnyH_ready (rs := [23]) (by kernel_rfl) (by simp) ?_
  refine cons_op rfl (fun K hK => ?_) AllReadyH.nil
  go_simp
  refine hK.out _ _ (HBS.out _ hb22) (fun hHeld => ?_)
  clear hK K
  (try simp only [Act.put, List.setIfInBounds_toArray, List.set_cons_zero, List.set_cons_succ])
  refine wpAnyH_ready (rs := [24]) (by kernel_rfl) (by simp) ?_
  refine cons_op rfl (fun K hK => ?_) AllReadyH.nil
  go_simp
  refine (KM.out _ hb22).mono ?_
  rintro e w24 ⟨rfl, hb24⟩
  (try go_wp2_with fail)
  refine hK.out _ _ hb24 (fun hHeld => ?_)
  clear hK K
  (try simp only [Act.put, List.setIfInBounds_toArray, List.set_cons_zero, List.set_cons_succ])
  refine take_op (i := 25) (v := ?_) rfl (by kernel_rfl) (by kernel_rfl) (by kernel_rfl) (fun _ _ _ h => h) (Or.inl ⟨by rfl, ?_⟩) (by assumption) ?_
  rotate_left
  · (intro w' hSw; (try dsimp only at hSw); go_simp; (try with_reducible rfl))
  simp only [Act.put, List.setIfInBounds_toArray, List.set_cons_zero, List.set_cons_succ]
  refine take_op (i := 26) (v := ?_) rfl (by kernel_rfl) (by kernel_rfl) (by kernel_rfl) (fun _ _ _ h => h) (Or.inl ⟨by rfl, ?_⟩) (by assumption) ?_
  rotate_left
  · (intro w' hSw; (try dsimp only at hSw); go_simp; (try with_reducible rfl))
  simp only [Act.put, List.setIfInBounds_toArray, List.set_cons_zero, List.set_cons_succ]
  refine take_op (i := 27) (v := ?_) rfl (by kernel_rfl) (by kernel_rfl) (by kernel_rfl) (fun _ _ _ h => h) (Or.inl ⟨by rfl, ?_⟩) (by assumption) ?_
  rotate_left
  · (intro w' hSw; (try dsimp only at hSw); go_simp; (try with_reducible rfl))
  simp only [Act.put, List.setIfInBounds_toArray, List.set_cons_zero, List.set_cons_succ]
  refine take_op (i := 28) (v := ?_) rfl (by kernel_rfl) (by kernel_rfl) (by kernel_rfl) (fun _ _ _ h => h) (Or.inl ⟨by rfl, ?_⟩) (by assumption) ?_
  rotate_left
  · (intro w' hSw; obtain ⟨q0, q1⟩ := HXT.out _ hSw; go_simp; (try with_reducible rfl))
  simp only [Act.put, List.setIfInBounds_toArray, List.set_cons_zero, List.set_cons_succ]
  refine take_op (i := 29) (v := ?_) rfl (by kernel_rfl) (by kernel_rfl) (by kernel_rfl) (fun _ _ _ h => h) (Or.inl ⟨by rfl, ?_⟩) (by assumption) ?_
  rotate_left
  · (intro w' hSw; (try dsimp only at hSw); go_simp; (try with_reducible rfl))
  simp only [Act.put, List.setIfInBounds_toArray, List.set_cons_zero, List.set_cons_succ]
  refine take_op (i := 30) (v := ?_) rfl (by kernel_rfl) (by kernel_rfl) (by kernel_rfl) (fun _ _ _ h => h) (Or.inl ⟨by rfl, ?_⟩) (by assumption) ?_
  rotate_left
  · (intro w' hSw; (try dsimp only at hSw); go_simp; (try with_reducible rfl))
  simp only [Act.put, List.setIfInBounds_toArray, List.set_cons_zero, List.set_cons_succ]
  refine take_op (i := 31) (v := ?_) rfl (by kernel_rfl) (by kernel_rfl) (by kernel_rfl) (fun _ _ _ h => h) (Or.inl ⟨by rfl, ?_⟩) (by assumption) ?_
  rotate_left
  · (intro w' hSw; have q5 := HXG.out _ hSw; go_simp; (try with_reducible rfl))
  simp only [Act.put, List.setIfInBounds_toArray, List.set_cons_zero, List.set_cons_succ]
  refine take_op (i := 32) (v := ?_) rfl (by kernel_rfl) (by kernel_rfl) (by kernel_rfl) (fun _ _ _ h => h) (Or.inl ⟨by rfl, ?_⟩) (by assumption) ?_
  rotate_left
  · (intro w' hSw; (try dsimp only at hSw); go_simp; (try with_reducible rfl))
  simp only [Act.put, List.setIfInBounds_toArray, List.set_cons_zero, List.set_cons_succ]
  refine take_op (i := 33) (v := ?_) rfl (by kernel_rfl) (by kernel_rfl) (by kernel_rfl) (fun _ _ _ h => h) (Or.inl ⟨by rfl, ?_⟩) (by assumption) ?_
  rotate_left
  · (intro w' hSw; (try dsimp only at hSw); go_simp; (try with_reducible rfl))
  simp only [Act.put, List.setIfInBounds_toArray, List.set_cons_zero, List.set_cons_succ]
  refine take_op (i := 34) (v := ?_) rfl (by kernel_rfl) (by kernel_rfl) (by kernel_rfl) (fun _ _ _ h => h) (Or.inl ⟨by rfl, ?_⟩) (by assumption) ?_
  rotate_left
  · (intro w' hSw; (try dsimp only at hSw); go_simp; (try with_reducible rfl))
  simp only [Act.put, List.setIfInBounds_toArray, List.set_cons_zero, List.set_cons_succ]
  refine take_op (i := 35) (v := ?_) rfl (by kernel_rfl) (by kernel_rfl) (by kernel_rfl) (fun _ _ _ h => h) (Or.inl ⟨by rfl, ?_⟩) (by assumption) ?_
  rotate_left
  · (intro w' hSw; (try dsimp only at hSw); go_simp; (try with_reducible rfl))
  simp only [Act.put, List.setIfInBounds_toArray, List.set_cons_zero, List.set_cons_succ]
  refine take_op (i := 36) (v := ?_) rfl (by kernel_rfl) (by kernel_rfl) (by kernel_rfl) (fun _ _ _ h => h) (Or.inl ⟨by rfl, ?_⟩) (by assumption) ?_
  rotate_left
  · (intro w' hSw; obtain ⟨q0, q1⟩ := HXU.out _ hSw; go_simp; (try with_reducible rfl))
  simp only [Act.put, List.setIfInBounds_toArray, List.set_cons_zero, List.set_cons_succ]
  refine take_op (i := 37) (v := ?_) rfl (by kernel_rfl) (by kernel_rfl) (by kernel_rfl) (fun _ _ _ h => h) (Or.inl ⟨by rfl, ?_⟩) (by assumption) ?_
  rotate_left
  · (intro w' hSw; (try dsimp only at hSw); go_simp; (try with_reducible rfl))
  simp only [Act.put, List.setIfInBounds_toArray, List.set_cons_zero, List.set_cons_succ]
  refine take_op (i := 38) (v := ?_) rfl (by kernel_rfl) (by kernel_rfl) (by kernel_rfl) (fun _ _ _ h => h) (Or.inl ⟨by rfl, ?_⟩) (by assumption) ?_
  rotate_left
  · (intro w' hSw; (try dsimp only at hSw); go_simp; (try with_reducible rfl))
  simp only [Act.put, List.setIfInBounds_toArray, List.set_cons_zero, List.set_cons_succ]
  refine take_op (i := 39) (v := ?_) rfl (by kernel_rfl) (by kernel_rfl) (by kernel_rfl) (fun _ _ _ h => h) (Or.inl ⟨by rfl, ?_⟩) (by assumption) ?_
  rotate_left
  · (intro w' hSw; (try dsimp only at hSw); go_simp; (try with_reducible rfl))
  simp only [Act.put, List.setIfInBounds_toArray, List.set_cons_zero, List.set_cons_succ]
  refine take_op (i := 40) (v := ?_) rfl (by kernel_rfl) (by kernel_rfl) (by kernel_rfl) (fun _ _ _ h => h) (Or.inl ⟨by rfl, ?_⟩) (by assumption) ?_
  rotate_left
  · (intro w' hSw; (try dsimp only at hSw); go_simp; (try with_reducible rfl))
  simp only [Act.put, List.setIfInBounds_toArray, List.set_cons_zero, List.set_cons_succ]
  refine take_op (i := 41) (v := ?_) rfl (by kernel_rfl) (by kernel_rfl) (by kernel_rfl) (fun _ _ _ h => h) (Or.inl ⟨by rfl, ?_⟩) (by assumption) ?_
  rotate_left
  · (intro w' hSw; (try dsimp only at hSw); go_simp; (try with_reducible rfl))
  simp only [Act.put, List.setIfInBounds_toArray, List.set_cons_zero, List.set_cons_succ]
  refine take_op (i := 42) (v := ?_) rfl (by kernel_rfl) (by kernel_rfl) (by kernel_rfl) (fun _ _ _ h => h) (Or.inl ⟨by rfl, ?_⟩) (by assumption) ?_
  rotate_left
  · (intro w' hSw; obtain ⟨q0, q1⟩ := HXU.out _ hSw; go_simp; (try with_reducible rfl))
  simp only [Act.put, List.setIfInBounds_toArray, List.set_cons_zero, List.set_cons_succ]
  refine take_op (i := 43) (v := ?_) rfl (by kernel_rfl) (by kernel_rfl) (by kernel_rfl) (fun _ _ _ h => h) (Or.inl ⟨by rfl, ?_⟩) (by assumption) ?_
  rotate_left
  · (intro w' hSw; (try dsimp only at hSw); go_simp; (try with_reducible rfl))
  simp only [Act.put, List.setIfInBounds_toArray, List.set_cons_zero, List.set_cons_succ]
  refine take_op (i := 44) (v := ?_) rfl (by kernel_rfl) (by kernel_rfl) (by kernel_rfl) (fun _ _ _ h => h) (Or.inl ⟨by rfl, ?_⟩) (by assumption) ?_
  rotate_left
  · (intro w' hSw; (try dsimp only at hSw); go_simp; (try with_reducible rfl))
  simp only [Act.put, List.setIfInBounds_toArray, List.set_cons_zero, List.set_cons_succ]
  refine take_op (i := 45) (v := ?_) rfl (by kernel_rfl) (by kernel_rfl) (by kernel_rfl) (fun _ _ _ h => h) (Or.inl ⟨by rfl, ?_⟩) (by assumption) ?_
  rotate_left
  · (intro w' hSw; (try dsimp only at hSw); go_simp; (try with_reducible rfl))
  simp only [Act.put, List.setIfInBounds_toArray, List.set_cons_zero, List.set_cons_succ]
  refine take_op (i := 46) (v := ?_) rfl (by kernel_rfl) (by kernel_rfl) (by kernel_rfl) (fun _ _ _ h => h) (Or.inl ⟨by rfl, ?_⟩) (by assumption) ?_
  rotate_left
  · (intro w' hSw; (try dsimp only at hSw); go_simp; (try with_reducible rfl))
  simp only [Act.put, List.setIfInBounds_toArray, List.set_cons_zero, List.set_cons_succ]
  refine take_op (i := 47) (v := ?_) rfl (by kernel_rfl) (by kernel_rfl) (by kernel_rfl) (fun _ _ _ h => h) (Or.inl ⟨by rfl, ?_⟩) (by assumption) ?_
  rotate_left
  · (intro w' hSw; (try dsimp only at hSw); go_simp; (try with_reducible rfl))
  simp only [Act.put, List.setIfInBounds_toArray, List.set_cons_zero, List.set_cons_succ]
  refine take_op (i := 48) (v := ?_) rfl (by kernel_rfl) (by kernel_rfl) (by kernel_rfl) (fun _ _ _ h => h) (Or.inl ⟨by rfl, ?_⟩) (by assumption) ?_
  rotate_left
  · (intro w' hSw; obtain ⟨q0, q1⟩ := HXV.out _ hSw; go_simp; (try with_reducible rfl))
  simp only [Act.put, List.setIfInBounds_toArray, List.set_cons_zero, List.set_cons_succ]
  refine take_op (i := 49) (v := ?_) rfl (by kernel_rfl) (by kernel_rfl) (by kernel_rfl) (fun _ _ _ h => h) (Or.inl ⟨by rfl, ?_⟩) (by assumption) ?_
  rotate_left
  · (intro w' hSw; (try dsimp only at hSw); go_simp; (try with_reducible rfl))
  simp only [Act.put, List.setIfInBounds_toArray, List.set_cons_zero, List.set_cons_succ]
  refine take_op (i := 50) (v := ?_) rfl (by kernel_rfl) (by kernel_rfl) (by kernel_rfl) (fun _ _ _ h => h) (Or.inl ⟨by rfl, ?_⟩) (by assumption) ?_
  rotate_left
  · (intro w' hSw; (try dsimp only at hSw); go_simp; (try with_reducible rfl))
  simp only [Act.put, List.setIfInBounds_toArray, List.set_cons_zero, List.set_cons_succ]
  refine take_op (i := 51) (v := ?_) rfl (by kernel_rfl) (by kernel_rfl) (by kernel_rfl) (fun _ _ _ h => h) (Or.inl ⟨by rfl, ?_⟩) (by assumption) ?_
  rotate_left
  · (intro w' hSw; (try dsimp only at hSw); go_simp; (try with_reducible rfl))
  simp only [Act.put, List.setIfInBounds_toArray, List.set_cons_zero, List.set_cons_succ]
  refine take_op (i := 52) (v := ?_) rfl (by kernel_rfl) (by kernel_rfl) (by kernel_rfl) (fun _ _ _ h => h) (Or.inl ⟨by rfl, ?_⟩) (by assumption) ?_
  rotate_left
  · (intro w' hSw; (try dsimp only at hSw); go_simp; (try with_reducible rfl))
  simp only [Act.put, List.setIfInBounds_toArray, List.set_cons_zero, List.set_cons_succ]
  refine take_op (i := 53) (v := ?_) rfl (by kernel_rfl) (by kernel_rfl) (by kernel_rfl) (fun _ _ _ h => h) (Or.inl ⟨by rfl, ?_⟩) (by assumption) ?_
  rotate_left
  · (intro w' hSw; (try dsimp only at hSw); go_simp; (try with_reducible rfl))
  simp only [Act.put, List.setIfInBounds_toArray, List.set_cons_zero, List.set_cons_succ]
  refine take_op (i := 54) (v := ?_) rfl (by kernel_rfl) (by kernel_rfl) (by kernel_rfl) (fun _ _ _ h => h) (Or.inl ⟨by rfl, ?_⟩) (by assumption) ?_
  rotate_left
  · (intro w' hSw; obtain ⟨q0, q1⟩ := HXV.out _ hSw; go_simp; (try with_reducible rfl))
  simp only [Act.put, List.setIfInBounds_toArray, List.set_cons_zero, List.set_cons_succ]
  refine take_op (i := 55) (v := ?_) rfl (by kernel_rfl) (by kernel_rfl) (by kernel_rfl) (fun _ _ _ h => h) (Or.inl ⟨by rfl, ?_⟩) (by assumption) ?_
  rotate_left
  · (intro w' hSw; (try dsimp only at hSw); go_simp; (try with_reducible rfl))
  simp only [Act.put, List.setIfInBounds_toArray, List.set_cons_zero, List.set_cons_succ]
  refine take_op (i := 56) (v := ?_) rfl (by kernel_rfl) (by kernel_rfl) (by kernel_rfl) (fun _ _ _ h => h) (Or.inl ⟨by rfl, ?_⟩) (by assumption) ?_
  rotate_left
  · (intro w' hSw; (try dsimp only at hSw); go_simp; (try with_reducible rfl))
  simp only [Act.put, List.setIfInBounds_toArray, List.set_cons_zero, List.set_cons_succ]
  refine take_op (i := 57) (v := ?_) rfl (by kernel_rfl) (by kernel_rfl) (by kernel_rfl) (fun _ _ _ h => h) (Or.inl ⟨by rfl, ?_⟩) (by assumption) ?_
  rotate_left
  · (intro w' hSw; (try dsimp only at hSw); go_simp; (try with_reducible rfl))
  simp only [Act.put, List.setIfInBounds_toArray, List.set_cons_zero, List.set_cons_succ]
  refine take_op (i := 58) (v := ?_) rfl (by kernel_rfl) (by kernel_rfl) (by kernel_rfl) (fun _ _ _ h => h) (Or.inl ⟨by rfl, ?_⟩) (by assumption) ?_
  rotate_left
  · (intro w' hSw; (try dsimp only at hSw); go_simp; (try with_reducible rfl))
  simp only [Act.put, List.setIfInBounds_toArray, List.set_cons_zero, List.set_cons_succ]
  refine take_op (i := 59) (v := ?_) rfl (by kernel_rfl) (by kernel_rfl) (by kernel_rfl) (fun _ _ _ h => h) (Or.inl ⟨by rfl, ?_⟩) (by assumption) ?_
  rotate_left
  · (intro w' hSw; (try dsimp only at hSw); go_simp; (try with_reducible rfl))
  simp only [Act.put, List.setIfInBounds_toArray, List.set_cons_zero, List.set_cons_succ]
  refine wpAnyH_ready (rs := [60]) (by kernel_rfl) (by simp) ?_
  refine cons_op rfl (fun K hK => ?_) AllReadyH.nil
  go_simp
  refine (KW.out _ hb24).mono ?_
  rintro e w60 ⟨Aw, cw, rfl, hb60⟩
  (try go_wp2_with fail)
  refine hK.out _ _ hb60 (fun hHeld => ?_)
  clear hK K
  (try simp only [Act.put, List.setIfInBounds_toArray, List.set_cons_zero, List.set_cons_succ])
  refine take_op (i := 61) (v := ?_) rfl (by kernel_rfl) (by kernel_rfl) (by kernel_rfl) (fun _ _ _ h => h) (Or.inl ⟨by rfl, ?_⟩) (by assumption) ?_
  rotate_left
  · (intro w' hSw; (try dsimp only at hSw); go_simp; (try with_reducible rfl))
  simp only [Act.put, List.setIfInBounds_toArray, List.set_cons_zero, List.set_cons_succ]
  refine take_op (i := 62) (v := ?_) rfl (by kernel_rfl) (by kernel_rfl) (by kernel_rfl) (fun _ _ _ h => h) (Or.inl ⟨by rfl, ?_⟩) (by assumption) ?_
  rotate_left
  · (intro w' hSw; (try dsimp only at hSw); go_simp; (try with_reducible rfl))
  simp only [Act.put, List.setIfInBounds_toArray, List.set_cons_zero, List.set_cons_succ]
  refine take_op (i := 63) (v := ?_) rfl (by kernel_rfl) (by kernel_rfl) (by kernel_rfl) (fun _ _ _ h => h) (Or.inl ⟨by rfl, ?_⟩) (by assumption) ?_
  rotate_left
  · (intro w' hSw; (try dsimp only at hSw); go_simp; (try with_reducible rfl))
  simp only [Act.put, List.setIfInBounds_toArray, List.set_cons_zero, List.set_cons_succ]
  refine take_op (i := 64) (v := ?_) rfl (by kernel_rfl) (by kernel_rfl) (by kernel_rfl) (fun _ _ _ h => h) (Or.inl ⟨by rfl, ?_⟩) (by assumption) ?_
  rotate_left
  · (intro w' hSw; (try dsimp only at hSw); go_simp; (try with_reducible rfl))
  simp only [Act.put, List.setIfInBounds_toArray, List.set_cons_zero, List.set_cons_succ]
  refine wpAnyH_done (by kernel_rfl) ?_ _
  have HFF := Lib.hid (HFB.out _ hb60)
  clear hb22 hb24 hb60 d0 KF KM KW HXP HXT HXU HXV HXG HFB HBS
  go_wp2
  first | exact HFF.out | (go_ret; exact HFF.out)
end Go.Proofs.YtfgajjfcjlejmaaDoor

/-
  The other calls of the examples as contracts.
-/
namespace Go.Proofs.YtfgajjfcjlejmaaDoor
set_option maxRecDepth 100000
set_option linter.unusedSimpArgs false
open Go Go.RowKit Wr
attribute [local go_sem] Oper.semAt_some

namespace Lk
/-- So many messages were sent. -/
def sM (m : Nat) : S := { sA with sent := m, opn := (List.range m).map (fun i : Nat => freeM i), on := decide (0 < m), at_ := if 0 < m then 4 else 0 }
theorem sM_zero : sM 0 = sA := rfl
theorem sM_send (m : Nat) : sendS (sM m) 0 (freeM m) = sM (m + 1) := by
  have h1 : (List.range (m + 1)).map (fun i : Nat => freeM i) = (List.range m).map (fun i : Nat => freeM i) ++ [freeM m] := by rw [List.range_succ, List.map_append]; rfl
  unfold sM sendS
  rw [h1]
  cases m with
  | zero => rfl
  | succ m => simp
theorem sM_sE {m : Nat} (h : m < 16) : sendE (sM m) (freeM m) = 0 := by
  have hf := fm_free m (by omega)
  unfold sendE
  rw [hf.1]
  have h2 : (sM m).opn.length = m := by simp [sM]
  have h3 : isB (freeM m).kind = false := rfl
  have h4 : (sM m).kn = 5 := rfl
  have h5 : (sM m).sent = m := rfl
  rw [h2, h3, h4, h5]
  simp
  omega
theorem sM_ok : ∀ m, m ≤ 16 → Ok (sM m)
  | 0, _ => okA
  | m + 1, h => by
    have := (sM_ok m (by omega)).send 0 (fm_free m (by omega)) (sM_sE (by omega))
    rwa [sM_send] at this
theorem sM_on (m : Nat) : (sM (m + 1)).on = true := by simp [sM]
def sT : S := { sM 16 with at_ := 12, tr := 1 }
theorem sT_tick : tickS (sM 16) 4 = sT := rfl
theorem sT_no : tickS (sM 16) 3 = sM 16 ∧ tickL (sM 16) 3 = [] := ⟨rfl, rfl⟩
theorem sT_ok : Ok sT := by
  have := (sM_ok 16 (Nat.le_refl _)).tick 4
  rwa [sT_tick] at this
theorem sT_len : (tickL (sM 16) 4).length = 16 := rfl
theorem sT_seq : ((tickL (sM 16) 4).getD 15 default).seq = 16 := rfl
def pX : Pkt := ⟨3, 1, 1, 0, 0, 0, bareM 9⟩
theorem pX_te : takeE sT pX = false := by decide
theorem pX_r : takeR sT 0 pX = ⟨sT, [], [], false⟩ := by
  unfold takeR
  rw [pX_te]
  rfl
end Lk
/-- A link's blocks, no packets among them. -/
theorem LnkAt.slim {w : World} {T S : Nat → Prop} {o N : Nat} {s : Lk.S} (h : LnkAt w T S o N s) : ∃ S' : Nat → Prop, LnkAt w T S' o N s ∧ (∀ k, S' k → S k) ∧ ∀ g cur, w.heap[g]? = some (.cells cur 39 (0, 0)) → ¬ S' g := by
  obtain ⟨⟨v, E, mb, h1, h2, h3, h4, h5, h6, h7⟩, hso, hst, hlt⟩ := h
  refine ⟨fun k => k = o ∨ k = mb ∨ v.ownBlock = some k, ⟨⟨v, E, mb, h1, h2, h3, h4, .inr (.inl rfl), h6, fun g hg => ⟨.inr (.inr hg), (h7 g hg).2⟩⟩, .inl rfl, fun k hk => ?_, hlt⟩, fun k hk => ?_, fun g cur hg hk => ?_⟩
  · rcases hk with rfl | rfl | hk
    · exact hst _ hso
    · exact hst _ h5
    · exact hst _ (h7 k hk).1
  · rcases hk with rfl | rfl | hk
    · exact hso
    · exact h5
    · exact (h7 k hk).1
  · rcases hk with rfl | rfl | hk
    · rw [h2] at hg
      simp at hg
    · obtain ⟨gg, _, hm, _⟩ := h4
      obtain ⟨D, ho, _⟩ := hm
      obtain ⟨es, clock, hb, _⟩ := ho
      rw [hb] at hg
      cases hg
    · rcases h3.row.2 with ⟨e, _⟩ | ⟨g', cap, cur', e, _, hh, _⟩
      · rw [e] at hk; cases hk
      · rw [e] at hk
        simp [Value.ownBlock] at hk
        subst hk
        rw [hh] at hg
        simp at hg
/-- The link a. -/
def OneL (w W : World) (a : Nat) (s : Lk.S) : Prop := ∃ T S N, LnkAt W T S a N s ∧ Below w.heap.size w W ∧ (∀ k, T k → w.heap.size ≤ k) ∧ N ≤ 2
theorem OneL.below {w W W' : World} {a : Nat} {s : Lk.S} (h : OneL w W a s) (hb : Below W.heap.size W W') : OneL w W' a s := by
  obtain ⟨T, S, N, h1, h2, h3, h4⟩ := h
  exact ⟨T, S, N, h1.below hb, h2.trans (hb.mono h2.size), h3, h4⟩
theorem OneL.step {w W W' : World} {a N : Nat} {s s' : Lk.S} {T S S' : Nat → Prop} (h : LnkAt W T S a N s) (hb : Below w.heap.size w W) (hg : ∀ k, T k → w.heap.size ≤ k) {M : Nat} (hk : Kept S W W') (hl : LnkAt W' (fun k => T k ∨ S' k) S' a M s') (hS' : ∀ k, S' k → S k ∨ W.heap.size ≤ k) (hM : M ≤ 2) : OneL w W' a s' := by
  have hz := hb.size
  refine ⟨_, S', M, hl, hb.trans (hk.below (fun k hk => hg k (h.st k hk)) hz), fun k hk => ?_, hM⟩
  rcases hk with hk | hk
  · exact hg k hk
  · rcases hS' k hk with hk | hk
    · exact hg k (h.st k hk)
    · omega
@[reducible] def zPk : Value := .agg #[.int .i64 0, .int .i64 0, .int .u32 0, .int .u32 0, .int .u32 0, .int .u32 0, .int .i64 0, .int .i64 0, .int .u32 0, .int .u64 0, .int .i64 0, .int .i64 0, .int .i64 0, .int .i64 0, .slice none 0 0]
section
variable {w W : World} {a c : Nat}
theorem ln_new (W : World) : Calls Tryd.prog 9 #[.int .i64 1, .int .i64 2, .int .u32 1, .agg #[.int .u64 4, .int .u64 16]] W fun e w' => ∃ c, e = .returned (.tuple #[.pointer (some ⟨c, 0, none⟩), .int .i64 0]) ∧ Below W.heap.size W w' ∧ ∃ T S, LnkAt w' T S c 0 Lk.sA0 := by
  refine (new_ok W (self := 1) (peer := 2) (ep := 1) (b := 4) (c := 16) rfl rfl).mono ?_
  rintro e w' ⟨o, m, rfl, h1, h2, h3, h4⟩
  exact ⟨o, rfl, h1, _, _, h4 (fun _ => False) (fun _ h => h.elim)⟩
theorem ln_e1 {T S : Nat → Prop} (hL : Lay W) (h : LnkAt W T S c 0 Lk.sA0) : Calls Tryd.prog 14 #[.pointer (some ⟨c, 0, none⟩), .int .u64 0, frV 1] W fun e w' => e = .returned (.tuple #[zPk, .int .i64 110]) ∧ Below W.heap.size W w' :=
  send_link h Lk.okA0 hL.tab 0 (freeM 1) (A := none) (cap := 0) (ClT.none W T).at_ (by decide) (by decide) (Lk.fm_free 1 (by decide)).1 (by decide) rfl
theorem ln_e2 (hL : Lay w) (h : OneL w W a Lk.sA) : Calls Tryd.prog 14 #[.pointer (some ⟨a, 0, none⟩), .int .u64 0, .agg #[.int .i64 4, .int .i64 0, .int .u32 0, .int .u64 0, .int .i64 0, .int .i64 0, .int .i64 0, .int .i64 0, .slice none 0 0]] W fun e w' => e = .returned (.tuple #[zPk, .int .i64 71]) ∧ Below W.heap.size W w' := by
  obtain ⟨T, S, N, h1, h2, h3, h4⟩ := h
  exact send_bare h1 Lk.okA (hL.below h2).tab 0 (Lk.bareM 4) (A := none) (cap := 0) (ClT.none W T).at_ (by decide) (by decide) (by decide) (by decide)
theorem ln_send (hL : Lay w) {m : Nat} (hm : m < 16) (h : OneL w W a (Lk.sM m)) : Calls Tryd.prog 14 #[.pointer (some ⟨a, 0, none⟩), .int .u64 0, frV m] W fun e w' => ∃ A c, e = .returned (.tuple #[.agg #[.int .i64 1, .int .i64 2, .int .u32 1, .int .u32 5, .int .u32 ((m : Int) + 1), .int .u32 0, .int .i64 3, .int .i64 m, .int .u32 1, .int .u64 0, .int .i64 0, .int .i64 0, .int .i64 0, .int .i64 0, .slice A 0 c], .int .i64 0]) ∧ OneL w w' a (Lk.sM (m + 1)) := by
  obtain ⟨T, S, N, h1, h2, h3, h4⟩ := h
  have hl : ¬ 16 ≤ (Lk.sM m).opn.length := by simp [Lk.sM]; omega
  have hs : (Lk.sM m).sent ≠ 4294967295 := by show m ≠ _; omega
  have hf := Lk.fm_free m (by omega)
  cases m with
  | zero =>
    refine (send_off h1 (Lk.sM_ok 0 (by omega)) (hL.below h2).tab (n := 0) (Nat.zero_le _) (freeM 0) (ClT.none W T) (by decide) (by decide) hf.1 (by decide) (by decide) hl hs rfl).mono ?_
    rintro e w' ⟨A, c, rfl, hk, S', g1, g2, g3, g4⟩
    exact ⟨A, c, rfl, OneL.step h1 h2 h3 hk g1 g3 h4⟩
  | succ m =>
    have h6 : Lk.sM (m + 1 + 1) = { Lk.sM (m + 1) with sent := (Lk.sM (m + 1)).sent + 1, opn := (Lk.sM (m + 1)).opn ++ [freeM ((m + 1 : Nat) : Int)] } := by
      rw [← Lk.sM_send (m + 1)]
      unfold Lk.sendS
      rw [if_pos (Lk.sM_on m)]
    refine (send_on h1 (Lk.sM_ok (m + 1) (by omega)) (hL.below h2).tab (n := 0) (Nat.zero_le _) (freeM ((m + 1 : Nat) : Int)) (ClT.none W T) (by simp [freeM]) (by simp [freeM]) hf.1 rfl (by simp [Lk.sM, Lk.sA]) hl hs (Lk.sM_on m)).mono ?_
    rintro e w' ⟨A, c, rfl, hk, S', g1, g2, g3, g4⟩
    rw [← h6] at g1
    exact ⟨A, c, rfl, OneL.step h1 h2 h3 hk g1 g3 h4⟩
theorem ln_room (hL : Lay w) {n : Nat} (hn : n < 1000) (h : OneL w W a (Lk.sM 16)) : Calls Tryd.prog 14 #[.pointer (some ⟨a, 0, none⟩), .int .u64 0, frV n] W fun e w' => e = .returned (.tuple #[zPk, .int .i64 111]) ∧ Below W.heap.size W w' := by
  obtain ⟨T, S, N, h1, h2, h3, h4⟩ := h
  exact send_room1 h1 (Lk.sM_ok 16 (Nat.le_refl _)) (hL.below h2).tab 0 (freeM n) (A := none) (cap := 0) (ClT.none W T).at_ (by simp [freeM]) (by simp [freeM]) (Lk.fm_free n hn).1 rfl (by decide) (by simp [Lk.sM])
theorem ln_tick3 (h : OneL w W a (Lk.sM 16)) : Calls Tryd.prog 20 #[.pointer (some ⟨a, 0, none⟩), .int .u64 3] W fun e w' => ∃ A c, e = .returned (.slice A 0 c) ∧ OneL w w' a (Lk.sM 16) := by
  obtain ⟨T, S, N, h1, h2, h3, h4⟩ := h
  refine (tick_no h1 (Lk.sM_ok 16 (Nat.le_refl _)) (n := 3) (by decide) rfl).mono ?_
  rintro e w' ⟨v, rfl, hk, S', g1, g2, g3, g4⟩
  rw [Lk.sT_no.1] at g1
  rw [Lk.sT_no.2] at g4
  obtain ⟨A, c, rfl⟩ := g4.none_
  exact ⟨A, c, rfl, OneL.step h1 h2 h3 hk g1 g3 h4⟩
/-- .. with the last packet that was sent again. -/
def OneG (w W : World) (a g N : Nat) (s : Lk.S) : Prop := W.cell? ⟨g, 229, none⟩ = some (.int .u32 16) ∧ ∃ T S, LnkAt W T S a N s ∧ Below w.heap.size w W ∧ (∀ k, T k → w.heap.size ≤ k) ∧ ¬ S g
theorem OneG.below {W' : World} {g N : Nat} {s : Lk.S} (h : OneG w W a g N s) (hb : Below W.heap.size W W') : OneG w W' a g N s := by
  obtain ⟨h0, T, S, h1, h2, h3, h5⟩ := h
  exact ⟨(hb.cell (p := ⟨g, 229, none⟩) (World.block_lt_of_cell? W _ h0)).trans h0, T, S, h1.below hb, h2.trans (hb.mono h2.size), h3, h5⟩
theorem ln_tick4 (h : OneL w W a (Lk.sM 16)) : Calls Tryd.prog 20 #[.pointer (some ⟨a, 0, none⟩), .int .u64 4] W fun e w' => ∃ g c, e = .returned (.slice (some ⟨g, 0, none⟩) 16 c) ∧ ∃ N, N ≤ 2 ∧ OneG w w' a g N Lk.sT := by
  obtain ⟨T, S, N, h1, h2, h3, h4⟩ := h
  have hz := h2.size
  refine (tick_many h1 (Lk.sM_ok 16 (Nat.le_refl _)) (n := 4) (by decide) rfl (by simp [Lk.sM, Lk.sA])).mono ?_
  rintro e w' ⟨v, rfl, hk, S', g1, g2, g3, g4⟩
  rw [Lk.sT_tick] at g1
  obtain ⟨g, cap, A, c, e1, r1, r2⟩ := g4.get (k := 15) (by rw [Lk.sT_len]; decide)
  rw [Lk.sT_len] at e1
  subst e1
  obtain ⟨_, cur, hc⟩ := g4.blk (g := g) rfl
  obtain ⟨S2, s1, s2, s3⟩ := g1.slim
  refine ⟨g, cap, rfl, N, h4, ?_, _, S2, s1, h2.trans (hk.below (fun k hk => h3 k (h1.st k hk)) hz), fun k hk => ?_, s3 g cur hc⟩
  · have := r1 4 _ rfl
    rw [Lk.sT_seq] at this
    exact this
  · rcases hk with hk | hk
    · exact h3 k hk
    · rcases g3 k hk with hk | hk
      · exact h3 k (h1.st k hk)
      · omega
theorem ln_take {g N : Nat} (hL : Lay w) (hN : N ≤ 2) (h : OneG w W a g N Lk.sT) : Calls Tryd.prog 17 #[.pointer (some ⟨a, 0, none⟩), .int .u64 0, .agg #[.int .i64 3, .int .i64 1, .int .u32 1, .int .u32 0, .int .u32 0, .int .u32 0, .int .i64 9, .int .i64 0, .int .u32 0, .int .u64 0, .int .i64 0, .int .i64 0, .int .i64 0, .int .i64 0, .slice none 0 0]] W fun e w' => ∃ Au cu Ab cb, e = .returned (.tuple #[.agg #[.slice Au 0 cu, .slice Ab 0 cb, .bool false], .int .i64 2]) ∧ ∃ M, OneG w w' a g M Lk.sT := by
  obtain ⟨h0, T, S, h1, h2, h3, h5⟩ := h
  have hLW := hL.below h2
  have hd := hL.tz.lt
  have hz := h2.size
  refine (take_any (p := Lk.pX) (n := 0) ⟨h1, Lk.sT_ok, hLW.tab, hLW.tz, fun ht => by have := h3 _ ht; omega, Nat.zero_le _, ClT.none W T, by decide, by decide, by decide, by decide, by decide, by omega⟩).mono ?_
  rw [Lk.pX_r, Lk.pX_te]
  rintro e w' ⟨uv, bv, rfl, hk, S', g1, g2, g3, g4, g5, g6, g7⟩
  obtain ⟨Au, cu, rfl⟩ := g4.none_
  obtain ⟨Ab, cb, rfl⟩ := g5.none_
  have hg := World.block_lt_of_cell? W _ h0
  refine ⟨Au, cu, Ab, cb, rfl, N + 1, hk.cell h0 h5, _, S', g1, h2.trans (hk.below (fun k hk => h3 k (h1.st k hk)) hz), fun k hk => ?_, fun hs => ?_⟩
  · rcases hk with hk | hk
    · exact h3 k hk
    · rcases g3 k hk with hk | hk
      · exact h3 k (h1.st k hk)
      · omega
  · rcases g3 g hs with hs | hs
    · exact h5 hs
    · have : g < W.heap.size := hg
      omega
theorem ln_bad1 (W : World) : Calls Tryd.prog 9 #[.int .i64 1, .int .i64 1, .int .u32 1, .agg #[.int .u64 4, .int .u64 16]] W fun e w' => e = .returned (.tuple #[.pointer none, .int .i64 2]) ∧ Below W.heap.size W w' := new_bad W (self := 1) (peer := 1) (ep := 1) (b := 4) (c := 16) rfl
theorem ln_bad2 (W : World) : Calls Tryd.prog 9 #[.int .i64 1, .int .i64 2, .int .u32 0, .agg #[.int .u64 4, .int .u64 16]] W fun e w' => e = .returned (.tuple #[.pointer none, .int .i64 2]) ∧ Below W.heap.size W w' := new_bad W (self := 1) (peer := 2) (ep := 0) (b := 4) (c := 16) rfl
theorem ln_rule (W : World) : Calls Tryd.prog 9 #[.int .i64 1, .int .i64 2, .int .u32 1, .agg #[.int .u64 0, .int .u64 0]] W fun e w' => e = .returned (.tuple #[.pointer none, .int .i64 90]) ∧ Below W.heap.size W w' := new_rule W (self := 1) (peer := 2) (ep := 1) (b := 0) (c := 0) rfl rfl
theorem ln_none (W : World) : Calls Tryd.prog 14 #[.pointer none, .int .u64 0, frV 1] W fun e w' => e = .returned (.tuple #[zPk, .int .i64 1]) ∧ Below W.heap.size W w' := send_none W 0 (freeM 1) (A := none) (cap := 0)
theorem ln_rings {g N : Nat} (h : OneG w W a g N Lk.sT) : Calls Tryd.prog 22 #[.pointer (some ⟨a, 0, none⟩)] W fun e w' => e = .returned (.tuple #[.int .u64 12, .bool true]) ∧ OneG w w' a g N Lk.sT := by
  have h' := h
  obtain ⟨h0, T, S, h1, h2, h3, h5⟩ := h
  exact (lrings_any h1 (by decide)).mono fun e w' hh => ⟨hh.1, h'.below hh.2⟩
end
end Go.Proofs.YtfgajjfcjlejmaaDoor
