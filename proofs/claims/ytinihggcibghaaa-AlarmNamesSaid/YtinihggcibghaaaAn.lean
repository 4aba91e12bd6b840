/-
  The law AlarmNames (closed).
-/
import Derived.Test.YtinihggcibghaaaAl
import Derived.Test.YtinihggcibghaaaTk
import Derived.Deep.DeepCutAuto
import Derived.Deep.CutBlock
import Derived.Deep.RegionHeld3
namespace Go.Proofs.Ytinihggcibghaaa
set_option maxRecDepth 100000
set_option linter.unusedSimpArgs false
open Go Go.RowKit

/-- The boxes of the law: the chapter's rule, its alarm, a rule that may not be, and the longest. -/
structure Nb (w : World) (p1 p2 p3 p4 : Nat) (W : World) : Prop where
  below : Below w.heap.size w W
  r1 : W.heap[p1]? = some (.cells #[.int .u64 3, .int .u64 20] 65 (0, 0))
  r2 : W.heap[p2]? = some (.cells #[.bool true, .int .u64 19, .int .i64 1] 62 (0, 0))
  r3 : W.heap[p3]? = some (.cells #[.int .u64 5, .int .u64 4] 65 (0, 0))
  r4 : W.heap[p4]? = some (.cells #[.int .u64 1, .int .u64 4294967296] 65 (0, 0))
theorem Nb.on {w : World} {p1 p2 p3 p4 : Nat} {W W' : World} (h : Nb w p1 p2 p3 p4 W) (hb : Below W.heap.size W W') : Nb w p1 p2 p3 p4 W' :=
  ⟨h.below.trans (hb.mono h.below.size), (hb.block _ (blk_lt h.r1)).trans h.r1, (hb.block _ (blk_lt h.r2)).trans h.r2, (hb.block _ (blk_lt h.r3)).trans h.r3, (hb.block _ (blk_lt h.r4)).trans h.r4⟩
theorem Nb.cells {w : World} {p1 p2 p3 p4 : Nat} {W : World} (h : Nb w p1 p2 p3 p4 W) :
    (W.cell? ⟨p1, 0, none⟩ = some (.int .u64 3) ∧ W.cell? ⟨p1, 1, none⟩ = some (.int .u64 20)) ∧ (W.cell? ⟨p2, 0, none⟩ = some (.bool true) ∧ W.cell? ⟨p2, 1, none⟩ = some (.int .u64 19) ∧ W.cell? ⟨p2, 2, none⟩ = some (.int .i64 1)) ∧
    (W.cell? ⟨p3, 0, none⟩ = some (.int .u64 5) ∧ W.cell? ⟨p3, 1, none⟩ = some (.int .u64 4)) ∧ (W.cell? ⟨p4, 0, none⟩ = some (.int .u64 1) ∧ W.cell? ⟨p4, 1, none⟩ = some (.int .u64 4294967296)) :=
  ⟨two h.r1, (three h.r2).1, two h.r3, two h.r4⟩
theorem check_b (W : World) (b c : Nat) : Calls Try.prog 32 #[ruV b c] W fun e w' => e = .returned (.int .i64 (erI b c)) ∧ Below W.heap.size W w' := by
  refine (check_any W b c).mono ?_
  rintro e w' ⟨rfl, rfl⟩
  exact ⟨rfl, (Below.refl _ W).alloc (Nat.le_refl _) _⟩

theorem nm1 (W : World) : Calls Try.prog 29 #[.agg #[.int .u64 3, .int .u64 20], .int .i64 70] W fun e w' => e = .returned (.int .u64 20) ∧ Below W.heap.size W w' := delay_any W (b := 3) (c := 20) 70 (by decide)
theorem nm2 (W : World) : Calls Try.prog 29 #[.agg #[.int .u64 3, .int .u64 20], .int .i64 (-5)] W fun e w' => e = .returned (.int .u64 3) ∧ Below W.heap.size W w' := delay_any W (b := 3) (c := 20) (-5) (by decide)
theorem nm3 (W : World) : Calls Try.prog 30 #[.agg #[.int .u64 3, .int .u64 20], .int .i64 2, .int .u64 9] W fun e w' => e = .returned (.int .u64 14) ∧ Below W.heap.size W w' := shaken_any W (b := 3) (c := 20) 2 (q := 9) (by decide)
theorem nm4 (W : World) : Calls Try.prog 31 #[.agg #[.int .u64 3, .int .u64 20], .agg #[.bool true, .int .u64 19, .int .i64 1], .int .u64 18] W fun e w' => e = .returned (.bool false) ∧ Below W.heap.size W w' := rings_any W (b := 3) (c := 20) (n := 18) (a := 19) (t := 1) (on := true) (by decide)
theorem nm5 (W : World) : Calls Try.prog 31 #[.agg #[.int .u64 3, .int .u64 20], .agg #[.bool true, .int .u64 19, .int .i64 1], .int .u64 19] W fun e w' => e = .returned (.bool true) ∧ Below W.heap.size W w' := rings_any W (b := 3) (c := 20) (n := 19) (a := 19) (t := 1) (on := true) (by decide)
theorem nm6 (W : World) : Calls Try.prog 32 #[.agg #[.int .u64 3, .int .u64 20]] W fun e w' => e = .returned (.int .i64 0) ∧ Below W.heap.size W w' := check_b W 3 20
theorem nm7 (W : World) : Calls Try.prog 32 #[.agg #[.int .u64 5, .int .u64 4]] W fun e w' => e = .returned (.int .i64 90) ∧ Below W.heap.size W w' := check_b W 5 4
theorem nm8 (W : World) : Calls Try.prog 32 #[.agg #[.int .u64 0, .int .u64 0]] W fun e w' => e = .returned (.int .i64 90) ∧ Below W.heap.size W w' := check_b W 0 0
theorem nm9 (W : World) : Calls Try.prog 32 #[.agg #[.int .u64 1, .int .u64 4294967297]] W fun e w' => e = .returned (.int .i64 90) ∧ Below W.heap.size W w' := check_b W 1 4294967297
theorem nm10 (W : World) : Calls Try.prog 29 #[.agg #[.int .u64 5, .int .u64 4], .int .i64 1] W fun e w' => e = .returned (.int .u64 0) ∧ Below W.heap.size W w' := delay_no W (b := 5) (c := 4) 1 (by decide)
theorem nm11 (W : World) : Calls Try.prog 27 #[.agg #[.int .u64 5, .int .u64 4], .int .u64 1] W fun e w' => e = .returned (.agg #[.bool false, .int .u64 0, .int .i64 0]) ∧ Below W.heap.size W w' := start_no W (b := 5) (c := 4) (n := 1) (by decide)
theorem nm12 (W : World) : Calls Try.prog 29 #[.agg #[.int .u64 1, .int .u64 4294967296], .int .i64 31] W fun e w' => e = .returned (.int .u64 2147483648) ∧ Below W.heap.size W w' := delay_any W (b := 1) (c := 4294967296) 31 (by decide)
theorem nm13 (W : World) : Calls Try.prog 29 #[.agg #[.int .u64 1, .int .u64 4294967296], .int .i64 32] W fun e w' => e = .returned (.int .u64 4294967296) ∧ Below W.heap.size W w' := delay_any W (b := 1) (c := 4294967296) 32 (by decide)
theorem nm14 (W : World) : Calls Try.prog 29 #[.agg #[.int .u64 1, .int .u64 4294967296], .int .i64 1000] W fun e w' => e = .returned (.int .u64 4294967296) ∧ Below W.heap.size W w' := by
    have h := delay_any W (b := 1) (c := 4294967296) 1000 (by decide)
    rw [dly_cap (by decide) (by decide) (by decide)] at h
    exact h
theorem nm15 (W : World) : Calls Try.prog 27 #[.agg #[.int .u64 1, .int .u64 4294967296], .int .u64 18446744073709551615] W fun e w' => e = .returned (.agg #[.bool true, .int .u64 18446744073709551615, .int .i64 0]) ∧ Below W.heap.size W w' := start_any W (b := 1) (c := 4294967296) (n := 18446744073709551615) (by decide) (by decide)

set_option maxHeartbeats 4000000 in
theorem anames_any (w : World) : Calls Try.prog 6 #[] w fun e w' => e = .returned (.bool true) ∧ Below w.heap.size w w' := by
  go_enter Try.func6, Try.ntmps6
  go_wp2_with fail
  refine (few_any _).mono ?_
  rintro e w1 ⟨rfl, hb1⟩
  go_wp2_with fail
  have HB1 := Lib.hid hb1
  clear hb1
  have hR1 := World.alloc_heap_new w1 (.cells #[.int .u64 3, .int .u64 20] 65)
  have HW1 : Hid (Below w.heap.size w (w1.alloc (.cells #[.int .u64 3, .int .u64 20] 65))) := HB1.out.alloc HB1.out.size _
  obtain ⟨p1, hp1⟩ : ∃ p1, p1 = w1.heap.size := ⟨_, rfl⟩
  rw [← hp1] at hR1 ⊢
  obtain ⟨W1, hW1⟩ : ∃ W1, w1.alloc (.cells #[.int .u64 3, .int .u64 20] 65) = W1 := ⟨_, rfl⟩
  rw [hW1] at hR1 HW1 ⊢
  have HR1 := Lib.hid hR1
  obtain ⟨r0, r1⟩ := two hR1
  have HSC : Hid (∀ W, Below W1.heap.size W1.drew W → (W.cell? ⟨p1, 0, none⟩ = some (.int .u64 3) ∧ W.cell? ⟨p1, 1, none⟩ = some (.int .u64 20)) ∧ Below W1.heap.size W1 W) := fun W hb => ⟨two ((hb.block _ (blk_lt HR1.out)).trans HR1.out), ((Below.refl _ W1).drew).trans hb⟩
  have HS : Hid (∀ W : World, Calls Try.prog 27 #[.agg #[.int .u64 3, .int .u64 20], .int .u64 10] W fun e w' => e = .returned (.agg #[.bool true, .int .u64 13, .int .i64 0]) ∧ Below W.heap.size W w') :=
    fun W => start_any W (b := 3) (c := 20) (n := 10) (by decide) (by decide)
  have HA : Hid (∀ W : World, Calls Try.prog 26 #[.agg #[.int .u64 3, .int .u64 20], .agg #[.bool true, .int .u64 13, .int .i64 0], .int .u64 13] W fun e w' => e = .returned (.agg #[.bool true, .int .u64 19, .int .i64 1]) ∧ Below W.heap.size W w') :=
    fun W => again_any W (b := 3) (c := 20) (n := 13) (a := 13) (t := 0) (by decide) (by decide) (by decide)
  clear hp1 hW1 hR1 HB1 r0 r1
  have hs0 := HSC.out W1.drew (Below.refl _ _)
  go_cut [2] (fun v wx => ∃ p2, v = .pointer (some ⟨p2, 0, none⟩) ∧ Below W1.heap.size W1 wx ∧ wx.heap[p2]? = some (.cells #[.bool true, .int .u64 19, .int .i64 1] 62 (0, 0)))
  case first =>
    refine wp_region_held_drew (S := fun W => (W.cell? ⟨p1, 0, none⟩ = some (.int .u64 3) ∧ W.cell? ⟨p1, 1, none⟩ = some (.int .u64 20)) ∧ Below W1.heap.size W1 W) (by kernel_rfl) hs0 (fun hHeld => ?_)
    simp only [List.size_toArray, List.length_cons, List.length_nil, Nat.reduceAdd, Array.replicate_succ, Array.replicate_zero, List.push_toArray, List.nil_append, List.cons_append, List.append_toArray]
    refine take_op (i := 0) (v := ?_) rfl (by kernel_rfl) (by kernel_rfl) (by kernel_rfl) (fun _ _ _ h => h) (Or.inl ⟨by rfl, ?_⟩) (by assumption) ?_
    rotate_left
    · (intro w' hSw; (try dsimp only at hSw); go_simp; (try with_reducible rfl))
    (try simp only [Act.put, List.setIfInBounds_toArray, List.set_cons_zero, List.set_cons_succ])
    refine take_op (i := 1) (v := ?_) rfl (by kernel_rfl) (by kernel_rfl) (by kernel_rfl) (fun _ _ _ h => h) (Or.inl ⟨by rfl, ?_⟩) (by assumption) ?_
    rotate_left
    · (intro w' hSw; (try dsimp only at hSw); go_simp; (try with_reducible rfl))
    (try simp only [Act.put, List.setIfInBounds_toArray, List.set_cons_zero, List.set_cons_succ])
    refine wpAnyH_ready (rs := [2, 4]) (by kernel_rfl) (by simp) ?_
    refine cons_op rfl (fun K hK => ?_) (cons_op rfl (fun K hK => ?_) AllReadyH.nil)
    · go_simp
      with_reducible refine (HS.out _).mono ?_
      rintro e w2 ⟨rfl, hb2⟩
      have hs1 := HSC.out _ (hb2)
      (try go_wp2_with fail)
      refine hK.out _ _ hs1 (fun hHeld => ?_)
      clear hK K
      (try simp only [Act.put, List.setIfInBounds_toArray, List.set_cons_zero, List.set_cons_succ])
      refine wpAnyH_ready (rs := [3, 4]) (by kernel_rfl) (by simp) ?_
      refine cons_op rfl (fun K hK => ?_) (cons_op rfl (fun K hK => ?_) AllReadyH.nil)
      · go_simp
        with_reducible refine (HA.out _).mono ?_
        rintro e w3 ⟨rfl, hb3⟩
        have hs2 := HSC.out _ (hb2.trans (hb3.mono hb2.size))
        (try go_wp2_with fail)
        refine hK.out _ _ hs2 (fun hHeld => ?_)
        clear hK K
        (try simp only [Act.put, List.setIfInBounds_toArray, List.set_cons_zero, List.set_cons_succ])
        refine wpAnyH_ready (rs := [4]) (by kernel_rfl) (by simp) ?_
        refine cons_op rfl (fun K hK => ?_) AllReadyH.nil
        · go_simp
          refine hK.out _ _ (HSC.out _ (((hb2.trans (hb3.mono hb2.size)).alloc (hb2.trans (hb3.mono hb2.size)).size _))) (fun hHeld => ?_)
          clear hK K
          (try simp only [Act.put, List.setIfInBounds_toArray, List.set_cons_zero, List.set_cons_succ])
          refine wpAnyH_ready (rs := [5]) (by kernel_rfl) (by simp) ?_
          refine cons_op rfl (fun K hK => ?_) AllReadyH.nil
          · go_simp
            have HBE := Lib.hid ((hb2.trans (hb3.mono hb2.size)).alloc (hb2.trans (hb3.mono hb2.size)).size (.cells #[.bool true, .int .u64 19, .int .i64 1] 62))
            have HXE := Lib.hid (World.alloc_heap_new w3 (.cells #[.bool true, .int .u64 19, .int .i64 1] 62))
            refine hK.out _ _ (HSC.out _ HBE.out) (fun hHeld => ?_)
            clear hK K
            (try simp only [Act.put, List.setIfInBounds_toArray, List.set_cons_zero, List.set_cons_succ])
            refine wpAnyH_done (by kernel_rfl) ?_ _
            go_wp2
            go_meet
            exact ⟨_, rfl, (HSC.out _ HBE.out).2, HXE.out⟩
      · go_simp
        refine hK.out _ _ (HSC.out _ ((hb2.alloc hb2.size _))) (fun hHeld => ?_)
        clear hK K
        (try simp only [Act.put, List.setIfInBounds_toArray, List.set_cons_zero, List.set_cons_succ])
        refine wpAnyH_ready (rs := [3]) (by kernel_rfl) (by simp) ?_
        refine cons_op rfl (fun K hK => ?_) AllReadyH.nil
        · go_simp
          with_reducible refine (HA.out _).mono ?_
          rintro e w3 ⟨rfl, hb3⟩
          have hs2 := HSC.out _ (((hb2.alloc hb2.size _).trans (hb3.mono (hb2.alloc hb2.size _).size)))
          (try go_wp2_with fail)
          refine hK.out _ _ hs2 (fun hHeld => ?_)
          clear hK K
          (try simp only [Act.put, List.setIfInBounds_toArray, List.set_cons_zero, List.set_cons_succ])
          refine wpAnyH_ready (rs := [5]) (by kernel_rfl) (by simp) ?_
          refine cons_op rfl (fun K hK => ?_) AllReadyH.nil
          · have hx : w3.heap[w2.heap.size]? = some (.cells #[.bool false, .int .u64 0, .int .i64 0] 62 (0, 0)) := (hb3.block _ (by simp)).trans (World.alloc_heap_new w2 (.cells #[.bool false, .int .u64 0, .int .i64 0] 62))
            obtain ⟨⟨q0, q1, q2⟩, z0, z1, z2⟩ := three hx
            have hbe := (hb2.alloc hb2.size _).trans (hb3.mono (hb2.alloc hb2.size _).size)
            have hle : W1.drew.heap.size ≤ w2.heap.size := hb2.size
            have HBE := Lib.hid (((hbe.setCell (p := ⟨w2.heap.size, 0, none⟩) hle (.bool true)).setCell (p := ⟨w2.heap.size, 1, none⟩) hle (.int .u64 19)).setCell (p := ⟨w2.heap.size, 2, none⟩) hle (.int .i64 1))
            have HXE := Lib.hid (show _ = some (Obj.cells #[.bool true, .int .u64 19, .int .i64 1] 62 (0, 0)) from blk_set (blk_set (blk_set hx 0 (.bool true)) 1 (.int .u64 19)) 2 (.int .i64 1))
            clear hx hbe
            go_simp
            refine hK.out _ _ (HSC.out _ HBE.out) (fun hHeld => ?_)
            clear hK K
            (try simp only [Act.put, List.setIfInBounds_toArray, List.set_cons_zero, List.set_cons_succ])
            refine wpAnyH_done (by kernel_rfl) ?_ _
            go_wp2
            go_meet
            exact ⟨_, rfl, (HSC.out _ HBE.out).2, HXE.out⟩
    · go_simp
      refine hK.out _ _ (HSC.out _ (((Below.refl _ W1.drew).alloc (Nat.le_refl _) _))) (fun hHeld => ?_)
      clear hK K
      (try simp only [Act.put, List.setIfInBounds_toArray, List.set_cons_zero, List.set_cons_succ])
      refine wpAnyH_ready (rs := [2]) (by kernel_rfl) (by simp) ?_
      refine cons_op rfl (fun K hK => ?_) AllReadyH.nil
      · go_simp
        with_reducible refine (HS.out _).mono ?_
        rintro e w2 ⟨rfl, hb2⟩
        have hs1 := HSC.out _ ((((Below.refl _ W1.drew).alloc (Nat.le_refl _) _).trans (hb2.mono (by simp))))
        (try go_wp2_with fail)
        refine hK.out _ _ hs1 (fun hHeld => ?_)
        clear hK K
        (try simp only [Act.put, List.setIfInBounds_toArray, List.set_cons_zero, List.set_cons_succ])
        refine wpAnyH_ready (rs := [3]) (by kernel_rfl) (by simp) ?_
        refine cons_op rfl (fun K hK => ?_) AllReadyH.nil
        · go_simp
          with_reducible refine (HA.out _).mono ?_
          rintro e w3 ⟨rfl, hb3⟩
          have hs2 := HSC.out _ (((((Below.refl _ W1.drew).alloc (Nat.le_refl _) _).trans (hb2.mono (by simp))).trans (hb3.mono (by have := hb2.size; simp at this ⊢; omega))))
          (try go_wp2_with fail)
          refine hK.out _ _ hs2 (fun hHeld => ?_)
          clear hK K
          (try simp only [Act.put, List.setIfInBounds_toArray, List.set_cons_zero, List.set_cons_succ])
          refine wpAnyH_ready (rs := [5]) (by kernel_rfl) (by simp) ?_
          refine cons_op rfl (fun K hK => ?_) AllReadyH.nil
          · have hx : w3.heap[W1.heap.size]? = some (.cells #[.bool false, .int .u64 0, .int .i64 0] 62 (0, 0)) := (hb3.block _ (by have := hb2.size; simp at this ⊢; omega)).trans ((hb2.block _ (by simp)).trans (World.alloc_heap_new W1.drew (.cells #[.bool false, .int .u64 0, .int .i64 0] 62)))
            obtain ⟨⟨q0, q1, q2⟩, z0, z1, z2⟩ := three hx
            have hbe := (((Below.refl _ W1.drew).alloc (Nat.le_refl _) _).trans (hb2.mono (by simp))).trans (hb3.mono (by have := hb2.size; simp at this ⊢; omega))
            have hle : W1.drew.heap.size ≤ W1.heap.size := Nat.le_refl _
            have HBE := Lib.hid (((hbe.setCell (p := ⟨W1.heap.size, 0, none⟩) hle (.bool true)).setCell (p := ⟨W1.heap.size, 1, none⟩) hle (.int .u64 19)).setCell (p := ⟨W1.heap.size, 2, none⟩) hle (.int .i64 1))
            have HXE := Lib.hid (show _ = some (Obj.cells #[.bool true, .int .u64 19, .int .i64 1] 62 (0, 0)) from blk_set (blk_set (blk_set hx 0 (.bool true)) 1 (.int .u64 19)) 2 (.int .i64 1))
            clear hx hbe
            go_simp
            refine hK.out _ _ (HSC.out _ HBE.out) (fun hHeld => ?_)
            clear hK K
            (try simp only [Act.put, List.setIfInBounds_toArray, List.set_cons_zero, List.set_cons_succ])
            refine wpAnyH_done (by kernel_rfl) ?_ _
            go_wp2
            go_meet
            exact ⟨_, rfl, (HSC.out _ HBE.out).2, HXE.out⟩
  case rest =>
    obtain ⟨p2, rfl, hbc, hr2⟩ := hcut
    have hx := alm_new ((wc.alloc (.cells #[.int .u64 5, .int .u64 4] 65)).alloc (.cells #[.int .u64 1, .int .u64 4294967296] 65)) ⟨false, 1, 0⟩ ⟨true, 9, 0⟩ ⟨true, 7, 0⟩ 62
    have hN : Nb w p1 p2 wc.heap.size (wc.heap.size + 1) ((wc.alloc (.cells #[.int .u64 5, .int .u64 4] 65)).alloc (.cells #[.int .u64 1, .int .u64 4294967296] 65)) := by
      have h1 := (hbc.block _ (blk_lt HR1.out)).trans HR1.out
      have hb := HW1.out.trans (hbc.mono HW1.out.size)
      have h4 := World.alloc_heap_new (wc.alloc (.cells #[.int .u64 5, .int .u64 4] 65)) (.cells #[.int .u64 1, .int .u64 4294967296] 65)
      have hk : ∀ k, k < wc.heap.size → ((wc.alloc (.cells #[.int .u64 5, .int .u64 4] 65)).alloc (.cells #[.int .u64 1, .int .u64 4294967296] 65)).heap[k]? = wc.heap[k]? := fun k hk => by
        rw [Below.heap_alloc _ _ _ (by simp; omega), Below.heap_alloc _ _ _ hk]
      refine ⟨(hb.alloc hb.size _).alloc (by have := hb.size; simp; omega) _, (hk _ (blk_lt h1)).trans h1, (hk _ (blk_lt hr2)).trans hr2, ?_, by simpa only [World.size_alloc] using h4⟩
      rw [Below.heap_alloc _ _ _ (by simp)]
      exact World.alloc_heap_new _ _
    have hf := first_any (cap := 3) hx (by simp)
    have hfi : fiV [⟨false, 1, 0⟩, ⟨true, 9, 0⟩, ⟨true, 7, 0⟩] = (7, true) := by decide
    rw [hfi] at hf
    simp only [World.size_alloc] at hf
    have HF := Lib.hid hf
    have HNB := Lib.hid hN
    have HE : Hid (∀ W : World, Calls Try.prog 24 #[.slice none 0 0] W fun e w' => e = .returned (.tuple #[.int .u64 0, .bool false]) ∧ Below W.heap.size W w') := fun W => first_any (l := []) (cap := 0) (fun k hk => by simp at hk) (by simp)
    clear hx hN hf hfi hbc hr2 HW1 HR1 HSC HS HA hs0
    go_wp2_with fail
    refine HF.out.mono ?_
    rintro e v0 ⟨rfl, hb⟩
    have N0 := Lib.hid ((HNB.out.on ((Below.refl _ _).alloc (Nat.le_refl _) _)).on (by simpa only [World.size_alloc] using hb))
    clear HF HNB hb
    go_wp2_with fail
    refine (HE.out _).mono ?_
    rintro e v1 ⟨rfl, hb⟩
    have N1 := Lib.hid (N0.out.on hb)
    clear HE N0 hb
    go_wp2_with fail
    refine (alive_any _).mono ?_
    rintro e v2 ⟨rfl, hb⟩
    have N2 := Lib.hid (N1.out.on hb)
    clear N1 hb
    obtain ⟨⟨r0, r1⟩, ⟨a0, a1, a2⟩, ⟨b0, b1⟩, ⟨c0, c1⟩⟩ := N2.out.cells
    go_wp2_with fail
    refine (nm1 _).mono ?_
    rintro e v3 ⟨rfl, hb⟩
    have N3 := Lib.hid (N2.out.on hb)
    clear N2 hb r0 r1 a0 a1 a2 b0 b1 c0 c1
    obtain ⟨⟨r0, r1⟩, ⟨a0, a1, a2⟩, ⟨b0, b1⟩, ⟨c0, c1⟩⟩ := N3.out.cells
    go_wp2_with fail
    refine (nm2 _).mono ?_
    rintro e v4 ⟨rfl, hb⟩
    have N4 := Lib.hid (N3.out.on hb)
    clear N3 hb r0 r1 a0 a1 a2 b0 b1 c0 c1
    obtain ⟨⟨r0, r1⟩, ⟨a0, a1, a2⟩, ⟨b0, b1⟩, ⟨c0, c1⟩⟩ := N4.out.cells
    go_wp2_with fail
    refine (nm3 _).mono ?_
    rintro e v5 ⟨rfl, hb⟩
    have N5 := Lib.hid (N4.out.on hb)
    clear N4 hb r0 r1 a0 a1 a2 b0 b1 c0 c1
    obtain ⟨⟨r0, r1⟩, ⟨a0, a1, a2⟩, ⟨b0, b1⟩, ⟨c0, c1⟩⟩ := N5.out.cells
    go_wp2_with fail
    refine (nm4 _).mono ?_
    rintro e v6 ⟨rfl, hb⟩
    have N6 := Lib.hid (N5.out.on hb)
    clear N5 hb r0 r1 a0 a1 a2 b0 b1 c0 c1
    obtain ⟨⟨r0, r1⟩, ⟨a0, a1, a2⟩, ⟨b0, b1⟩, ⟨c0, c1⟩⟩ := N6.out.cells
    go_wp2_with fail
    refine (nm5 _).mono ?_
    rintro e v7 ⟨rfl, hb⟩
    have N7 := Lib.hid (N6.out.on hb)
    clear N6 hb r0 r1 a0 a1 a2 b0 b1 c0 c1
    obtain ⟨⟨r0, r1⟩, ⟨a0, a1, a2⟩, ⟨b0, b1⟩, ⟨c0, c1⟩⟩ := N7.out.cells
    go_wp2_with fail
    refine (nm6 _).mono ?_
    rintro e v8 ⟨rfl, hb⟩
    have N8 := Lib.hid (N7.out.on hb)
    clear N7 hb r0 r1 a0 a1 a2 b0 b1 c0 c1
    obtain ⟨⟨r0, r1⟩, ⟨a0, a1, a2⟩, ⟨b0, b1⟩, ⟨c0, c1⟩⟩ := N8.out.cells
    go_wp2_with fail
    refine (nm7 _).mono ?_
    rintro e v9 ⟨rfl, hb⟩
    have N9 := Lib.hid (N8.out.on hb)
    clear N8 hb r0 r1 a0 a1 a2 b0 b1 c0 c1
    obtain ⟨⟨r0, r1⟩, ⟨a0, a1, a2⟩, ⟨b0, b1⟩, ⟨c0, c1⟩⟩ := N9.out.cells
    go_wp2_with fail
    refine (nm8 _).mono ?_
    rintro e v10 ⟨rfl, hb⟩
    have N10 := Lib.hid (N9.out.on hb)
    clear N9 hb r0 r1 a0 a1 a2 b0 b1 c0 c1
    obtain ⟨⟨r0, r1⟩, ⟨a0, a1, a2⟩, ⟨b0, b1⟩, ⟨c0, c1⟩⟩ := N10.out.cells
    go_wp2_with fail
    refine (nm9 _).mono ?_
    rintro e v11 ⟨rfl, hb⟩
    have N11 := Lib.hid (N10.out.on hb)
    clear N10 hb r0 r1 a0 a1 a2 b0 b1 c0 c1
    obtain ⟨⟨r0, r1⟩, ⟨a0, a1, a2⟩, ⟨b0, b1⟩, ⟨c0, c1⟩⟩ := N11.out.cells
    go_wp2_with fail
    refine (nm10 _).mono ?_
    rintro e v12 ⟨rfl, hb⟩
    have N12 := Lib.hid (N11.out.on hb)
    clear N11 hb r0 r1 a0 a1 a2 b0 b1 c0 c1
    obtain ⟨⟨r0, r1⟩, ⟨a0, a1, a2⟩, ⟨b0, b1⟩, ⟨c0, c1⟩⟩ := N12.out.cells
    go_wp2_with fail
    refine (nm11 _).mono ?_
    rintro e v13 ⟨rfl, hb⟩
    have N13 := Lib.hid (N12.out.on hb)
    clear N12 hb r0 r1 a0 a1 a2 b0 b1 c0 c1
    obtain ⟨⟨r0, r1⟩, ⟨a0, a1, a2⟩, ⟨b0, b1⟩, ⟨c0, c1⟩⟩ := N13.out.cells
    go_wp2_with fail
    refine (nm12 _).mono ?_
    rintro e v14 ⟨rfl, hb⟩
    have N14 := Lib.hid (N13.out.on hb)
    clear N13 hb r0 r1 a0 a1 a2 b0 b1 c0 c1
    obtain ⟨⟨r0, r1⟩, ⟨a0, a1, a2⟩, ⟨b0, b1⟩, ⟨c0, c1⟩⟩ := N14.out.cells
    go_wp2_with fail
    refine (nm13 _).mono ?_
    rintro e v15 ⟨rfl, hb⟩
    have N15 := Lib.hid (N14.out.on hb)
    clear N14 hb r0 r1 a0 a1 a2 b0 b1 c0 c1
    obtain ⟨⟨r0, r1⟩, ⟨a0, a1, a2⟩, ⟨b0, b1⟩, ⟨c0, c1⟩⟩ := N15.out.cells
    go_wp2_with fail
    refine (nm14 _).mono ?_
    rintro e v16 ⟨rfl, hb⟩
    have N16 := Lib.hid (N15.out.on hb)
    clear N15 hb r0 r1 a0 a1 a2 b0 b1 c0 c1
    obtain ⟨⟨r0, r1⟩, ⟨a0, a1, a2⟩, ⟨b0, b1⟩, ⟨c0, c1⟩⟩ := N16.out.cells
    go_wp2_with fail
    refine (nm15 _).mono ?_
    rintro e v17 ⟨rfl, hb⟩
    have N17 := Lib.hid (N16.out.on hb)
    clear N16 hb r0 r1 a0 a1 a2 b0 b1 c0 c1
    have hfd : ∀ w, (Instr.field 62 (.agg #[.bool true, .int .u64 18446744073709551615, .int .i64 0]) 1).run Try.prog w = .ok (.int .u64 18446744073709551615) w := fun _ => by kernel_rfl
    go_wp2
    go_ret
    exact ⟨rfl, N17.out.below⟩
end Go.Proofs.Ytinihggcibghaaa
