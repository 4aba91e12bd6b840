/-
  The law AlarmLater.
-/
import Derived.Test.YtinihggcibghaaaAc
import Derived.Test.YtinihggcibghaaaAf
namespace Go.Proofs.Ytinihggcibghaaa
set_option maxRecDepth 100000
set_option linter.unusedSimpArgs false
open Go Go.RowKit

/-- A rule's box, and two alarms'. -/
structure Cb (w : World) (ab bb b c x : Nat) (t : Int) (y : Nat) (u : Int) (W : World) : Prop where
  one : Ch w ab b c x t W
  two : W.heap[bb]? = some (.cells #[.bool true, .int .u64 (y : Nat), .int .i64 u] 62 (0, 0))
  lt : ab < bb
theorem Cb.on {w : World} {ab bb b c x y : Nat} {t u : Int} {W W' : World} (h : Cb w ab bb b c x t y u W) (hb : Below W.heap.size W W') : Cb w ab bb b c x t y u W' :=
  ⟨h.one.on hb, (hb.block _ (blk_lt h.two)).trans h.two, h.lt⟩
theorem Cb.set {w : World} {ab bb b c x y : Nat} {t u : Int} {W : World} (h : Cb w ab bb b c x t y u W) (y' : Nat) (u' : Int) :
    Cb w ab bb b c x t y' u' (((W.setCell ⟨bb, 0, none⟩ (.bool true)).setCell ⟨bb, 1, none⟩ (.int .u64 (y' : Nat))).setCell ⟨bb, 2, none⟩ (.int .i64 u')) := by
  obtain ⟨⟨h1, h2, h3, h4⟩, h5, h6⟩ := h
  have hk : ∀ k, k ≠ bb → (((W.setCell ⟨bb, 0, none⟩ (.bool true)).setCell ⟨bb, 1, none⟩ (.int .u64 (y' : Nat))).setCell ⟨bb, 2, none⟩ (.int .i64 u')).heap[k]? = W.heap[k]? := fun k hk => by
    rw [Below.heap_setCell _ _ _ _ (by simpa using hk), Below.heap_setCell _ _ _ _ (by simpa using hk), Below.heap_setCell _ _ _ _ (by simpa using hk)]
  exact ⟨⟨((h1.setCell (p := ⟨bb, 0, none⟩) (by simp; omega) _).setCell (p := ⟨bb, 1, none⟩) (by simp; omega) _).setCell (p := ⟨bb, 2, none⟩) (by simp; omega) _, (hk _ (by omega)).trans h2, (hk _ (by omega)).trans h3, h4⟩,
    blk_set (blk_set (blk_set h5 0 (.bool true)) 1 (.int .u64 (y' : Nat))) 2 (.int .i64 u'), h6⟩

theorem alm_new (w : World) (x y z : Alr) (t : TypeId) :
    AlmAt (w.alloc (.cells #[.bool x.on, .int .u64 (x.at_ : Nat), .int .i64 x.tr, .bool y.on, .int .u64 (y.at_ : Nat), .int .i64 y.tr, .bool z.on, .int .u64 (z.at_ : Nat), .int .i64 z.tr] t)) (some ⟨w.heap.size, 0, none⟩) [x, y, z] := by
  have hnew := World.alloc_heap_new w (.cells #[.bool x.on, .int .u64 (x.at_ : Nat), .int .i64 x.tr, .bool y.on, .int .u64 (y.at_ : Nat), .int .i64 y.tr, .bool z.on, .int .u64 (z.at_ : Nat), .int .i64 z.tr] t)
  intro k hk
  refine ⟨_, rfl, ?_⟩
  match k, hk with
  | 0, _ => exact ⟨(blk_cell hnew 0).trans rfl, (blk_cell hnew 1).trans rfl, (blk_cell hnew 2).trans rfl⟩
  | 1, _ => exact ⟨(blk_cell hnew 3).trans rfl, (blk_cell hnew 4).trans rfl, (blk_cell hnew 5).trans rfl⟩
  | 2, _ => exact ⟨(blk_cell hnew 6).trans rfl, (blk_cell hnew 7).trans rfl, (blk_cell hnew 8).trans rfl⟩

set_option maxHeartbeats 2000000 in
theorem later_any (w : World) {b c n q o : Nat} (ho : o ≤ 255) (hn : n ≤ topT) :
    Calls Try.prog 9 #[ruV b c, .int .u64 (n : Nat), .int .u64 (q : Nat), .int .u8 (o : Nat)] w fun e w' => e = .returned (.bool true) ∧ Below w.heap.size w w' := by
  have R1 := Lib.hid (World.alloc_heap_new w (.cells #[.int .u64 (b : Nat), .int .u64 (c : Nat)] 65))
  have hb1 : Below w.heap.size w (w.alloc (.cells #[.int .u64 (b : Nat), .int .u64 (c : Nat)] 65)) := (Below.refl _ w).alloc (Nat.le_refl _) _
  have HB1 := Lib.hid hb1
  have HO := Lib.hid ho
  clear hb1 ho
  go_enter Try.func9, Try.ntmps9
  go_wp2_with fail
  refine (alive_any _).mono ?_
  rintro e w1 ⟨rfl, hb⟩
  have R2 := Lib.hid ((hb.block _ (blk_lt R1.out)).trans R1.out)
  have HB2 := Lib.hid (HB1.out.trans (hb.mono HB1.out.size))
  clear hb R1 HB1
  obtain ⟨r0, r1⟩ := two R2.out
  cases hok : okR b c with
  | false =>
    have HK := Lib.hid hok
    clear hok
    go_wp2_with fail
    refine (check_bad _ HK.out).mono ?_
    rintro e w2 ⟨rfl, rfl⟩
    go_wp2
    go_ret
    exact ⟨rfl, HB2.out.alloc HB2.out.size _⟩
  | true =>
    have HK := Lib.hid hok
    have hrb : 1 ≤ b ∧ b ≤ c ∧ c ≤ 4294967296 := by simpa [okR] using hok
    have HR := Lib.hid hrb
    clear hok hrb
    by_cases hno : n < 1152921504606846976
    · have g1 : decide ((1152921504606846976 : Int) ≤ (n : Int)) = false := by simp; omega
      have HNO := Lib.hid hno
      by_cases hqo : q < 1152921504606846976
      · have g2 : decide ((1152921504606846976 : Int) ≤ (q : Int)) = false := by simp; omega
        have HQO := Lib.hid hqo
        have HN := Lib.hid hn
        obtain ⟨M, hM⟩ : ∃ M, M = n + q := ⟨_, rfl⟩
        have xnq : IntKind.u64.wrap ((n : Int) + (q : Int)) = (M : Int) := by rw [u64_in (by omega) (by omega)]; omega
        have HMM := Lib.hid hM
        clear hM
        clear hno hqo hn
        go_wp2_with fail
        refine (check_ok _ HK.out).mono ?_
        rintro e w2 ⟨rfl, rfl⟩
        have R3 := Lib.hid ((Below.heap_alloc w1 (ruO b c) _ (blk_lt R2.out)).trans R2.out)
        have HB3 := Lib.hid (HB2.out.alloc HB2.out.size (ruO b c))
        clear r0 r1
        obtain ⟨r0, r1⟩ := two R3.out
        go_wp2_with fail
        refine (start_any _ HK.out HN.out).mono ?_
        rintro e w3 ⟨rfl, hb3⟩
        have hbe : beh n b = n + dly b c 0 := by
          rw [dly_zero HR.out.2.1 (by omega), beh]
          have := HR.out
          have := HNO.out
          unfold topT
          omega
        rw [hbe]
        have hch : Ch w w3.heap.size b c (n + dly b c ((0 : Nat) : Int)) ((0 : Nat) : Int) (w3.alloc (.cells #[.bool true, .int .u64 (n + dly b c ((0 : Nat) : Int) : Nat), .int .i64 ((0 : Nat) : Int)] 62)) := by
          have hs := (HB3.out.trans (hb3.mono HB3.out.size))
          have hlt := blk_lt R3.out
          refine ⟨hs.alloc hs.size _, (Below.heap_alloc _ _ _ (by have := hb3.size; omega)).trans ((hb3.block _ hlt).trans R3.out), World.alloc_heap_new _ _, by have := hb3.size; omega⟩
        have HCH := Lib.hid hch
        clear r0 r1 hch hb3 hbe R2 R3 HB2 HB3 g1 g2
        go_wp2_with fail
        obtain ⟨ab, hab⟩ : ∃ ab, ab = w3.heap.size := ⟨_, rfl⟩
        obtain ⟨m, hm⟩ : ∃ m, m = o % 40 := ⟨_, rfl⟩
        have hm2 : (wrap64 (o : Int)).tmod 40 = (m : Int) := by
          have := HO.out
          rw [IntWalk.wrap64_in _ (by omega), Int.tmod_eq_emod_of_nonneg (by omega)]
          omega
        have HM : Hid (m < 40) := by show _ < _; omega
        -- what Again answers, of either
        have HAG : Hid (∀ (N j a : Nat) (W : World), N < 2305843009213693952 → j < 40 → Calls Try.prog 26 #[.agg #[.int .u64 (b : Nat), .int .u64 (c : Nat)], .agg #[.bool true, .int .u64 (a : Nat), .int .i64 (j : Int)], .int .u64 (N : Nat)] W fun e w' => e = .returned (.agg #[.bool true, .int .u64 (N + dly b c ((j : Int) + 1) : Nat), .int .i64 ((j : Int) + 1)]) ∧ Below W.heap.size W w') := fun N j a W hN hj => by
          refine (again_any W (n := N) (a := a) (t := (j : Int)) HK.out (by unfold topT; omega) (by omega)).mono ?_
          rintro e w' ⟨rfl, h⟩
          have hj1 : agT (j : Int) = (j : Int) + 1 := by unfold agT; omega
          have h3 : dly b c ((j : Int) + 1) ≤ c := dly_le _ _ _
          have hR := HR.out
          have hbe : beh N (dly b c ((j : Int) + 1)) = N + dly b c ((j : Int) + 1) := by unfold beh topT; omega
          rw [hj1, hbe]
          exact ⟨rfl, h⟩
        rw [← hab] at HCH ⊢
        clear hm hab
        go_loopw [11] (fun i wr => ∃ j : Nat, j ≤ m ∧ i = .int .i64 (j : Int) ∧ Ch w ab b c (n + dly b c (j : Int)) (j : Int) wr) (fun i _ => m - (intOf i).toNat)
        case atStart => exact ⟨0, by omega, rfl, HCH.out⟩
        case round =>
          obtain ⟨j, hj, rfl, hC⟩ := hrel
          by_cases hlt : j < m
          · have HAG2 := Lib.hid (fun W => HAG.out n j (n + dly b c (j : Int)) W (by have := HNO.out; omega) (by have := HM.out; omega))
            have HLT := Lib.hid hlt
            have e0 : decide ((j : Int) < (m : Int)) = true := by simp; omega
            have x4 : IntKind.i64.wrap ((j : Int) + 1) = (j : Int) + 1 := IntWalk.i64_in _ (by have := HM.out; omega)
            generalize n + dly b c (j : Int) = A at *
            generalize hD : n + dly b c ((j : Int) + 1) = D at *
            have HD := Lib.hid hD
            clear hD hj hlt HCH HAG
            have HC := Lib.hid hC
            obtain ⟨⟨r0, r1⟩, ⟨a0, a1, a2⟩, z0, z1, z2⟩ := hC.cells
            clear hC
            go_wp2_with fail
            refine (HAG2.out _).mono ?_
            rintro e v3 ⟨rfl, hb3⟩
            have HC3 := Lib.hid ((HC.out.on hb3).set D ((j : Int) + 1))
            have hC4 := HC.out.on hb3
            clear hb3 HAG2 r0 r1 a0 a1 a2 z0 z1 z2 HC
            obtain ⟨⟨r0, r1⟩, ⟨a0, a1, a2⟩, z0, z1, z2⟩ := hC4.cells
            clear hC4
            go_wp2
            go_roundw
            case rel => exact ⟨j + 1, HLT.out, by push_cast; rfl, by push_cast; rw [HD.out]; exact HC3.out⟩
            case measure => have := HLT.out; simp [intOf]; omega
          · have hjm : j = m := by omega
            rw [hjm] at hC ⊢
            have HC := Lib.hid hC
            have HDM : Hid (dly b c (m : Int) ≤ c ∧ b ≤ dly b c (m : Int)) := ⟨dly_le _ _ _, dly_pos HR.out.2.1 _⟩
            generalize hA : n + dly b c (m : Int) = A at *
            have HAA := Lib.hid hA
            obtain ⟨⟨r0, r1⟩, ⟨a0, a1, a2⟩, z0, z1, z2⟩ := hC.cells
            clear hC hlt hj HCH hjm hA
            go_wp2_with fail
            refine (start_any _ HK.out (n := M) (by have := HMM.out; have := HNO.out; have := HQO.out; unfold topT; omega)).mono ?_
            rintro e w4 ⟨rfl, hb4⟩
            have hbe2 : beh M b = M + dly b c 0 := by
              rw [dly_zero HR.out.2.1 (by omega), beh]
              have := HR.out
              have := HNO.out
              have := HQO.out
              have := HMM.out
              unfold topT
              omega
            rw [hbe2]
            have hcb : Cb w ab w4.heap.size b c A (m : Int) (M + dly b c ((0 : Nat) : Int)) ((0 : Nat) : Int) (w4.alloc (.cells #[.bool true, .int .u64 (M + dly b c ((0 : Nat) : Int) : Nat), .int .i64 ((0 : Nat) : Int)] 62)) := by
              have h4 := HC.out.on hb4
              exact ⟨h4.on ((Below.refl _ _).alloc (Nat.le_refl _) _), World.alloc_heap_new _ _, blk_lt h4.a⟩
            have HCB := Lib.hid hcb
            clear r0 r1 a0 a1 a2 z0 z1 z2 hcb hb4 hbe2 HC
            go_wp2_with fail
            obtain ⟨bb, hbb⟩ : ∃ bb, bb = w4.heap.size := ⟨_, rfl⟩
            rw [← hbb] at HCB ⊢
            clear hbb
            go_loopw [13] (fun i wr => ∃ j : Nat, j ≤ m ∧ i = .int .i64 (j : Int) ∧ Cb w ab bb b c A (m : Int) (M + dly b c (j : Int)) (j : Int) wr) (fun i _ => m - (intOf i).toNat)
            case atStart => exact ⟨0, by omega, rfl, HCB.out⟩
            case round =>
              obtain ⟨j, hj, rfl, hC⟩ := hrel
              by_cases hlt : j < m
              · have HAG2 := Lib.hid (fun W => HAG.out M j (M + dly b c (j : Int)) W (by have := HNO.out; have := HQO.out; have := HMM.out; omega) (by have := HM.out; omega))
                have HLT := Lib.hid hlt
                have e0 : decide ((j : Int) < (m : Int)) = true := by simp; omega
                have x4 : IntKind.i64.wrap ((j : Int) + 1) = (j : Int) + 1 := IntWalk.i64_in _ (by have := HM.out; omega)
                generalize M + dly b c (j : Int) = B at *
                generalize hD : M + dly b c ((j : Int) + 1) = D at *
                have HD := Lib.hid hD
                clear hD hj hlt HCB HAG
                have HC := Lib.hid hC
                obtain ⟨⟨r0, r1⟩, _⟩ := hC.one.cells
                obtain ⟨⟨a0, a1, a2⟩, z0, z1, z2⟩ := three hC.two
                clear hC
                go_wp2_with fail
                refine (HAG2.out _).mono ?_
                rintro e v3 ⟨rfl, hb3⟩
                have HC3 := Lib.hid ((HC.out.on hb3).set D ((j : Int) + 1))
                have hC4 := HC.out.on hb3
                clear hb3 HAG2 r0 r1 a0 a1 a2 z0 z1 z2 HC
                obtain ⟨⟨r0, r1⟩, _⟩ := hC4.one.cells
                obtain ⟨⟨a0, a1, a2⟩, z0, z1, z2⟩ := three hC4.two
                clear hC4
                go_wp2
                go_roundw
                case rel => exact ⟨j + 1, HLT.out, by push_cast; rfl, by push_cast; rw [HD.out]; exact HC3.out⟩
                case measure => have := HLT.out; simp [intOf]; omega
              · have hjm : j = m := by omega
                rw [hjm] at hC ⊢
                have HC := Lib.hid hC
                generalize hB : M + dly b c (m : Int) = B at *
                have HBB := Lib.hid hB
                obtain ⟨⟨r0, r1⟩, ⟨a0, a1, a2⟩, _⟩ := hC.one.cells
                obtain ⟨⟨b0, b1, b2⟩, _⟩ := three hC.two
                clear hC hlt hj HCB hjm hB HAG
                have hR := HR.out
                have hn1 := HNO.out
                have hn2 := HQO.out
                have hn3 := HMM.out
                have hAB : B = A + q := by have := HAA.out; have := HBB.out; omega
                have hA1 : 1 ≤ A := by have := HAA.out; have := HDM.out.2; omega
                have hA2 : A < 1152921504606846976 + 4294967296 := by have := HAA.out; have := HDM.out.1; omega
                have x5 : IntKind.u64.wrap ((A : Int) + (q : Int)) = (B : Int) := by rw [u64_in (by omega) (by omega)]; omega
                have x6 : IntKind.u64.wrap ((A : Int) - 1) = ((A - 1 : Nat) : Int) := by rw [u64_in (by omega) (by omega)]; omega
                have HR1 : Hid (∀ (N : Nat) (W : World), A ≤ N → Calls Try.prog 31 #[.agg #[.int .u64 (b : Nat), .int .u64 (c : Nat)], .agg #[.bool true, .int .u64 (A : Nat), .int .i64 (m : Int)], .int .u64 (N : Nat)] W fun e w' => e = .returned (.bool true) ∧ Below W.heap.size W w') := fun N W hN => by
                  refine (rings_any W (n := N) (a := A) (t := (m : Int)) (on := true) HK.out).mono ?_
                  rintro e w' ⟨rfl, h⟩
                  exact ⟨by simp [hN], h⟩
                have HR2 : Hid (∀ W, Calls Try.prog 31 #[.agg #[.int .u64 (b : Nat), .int .u64 (c : Nat)], .agg #[.bool true, .int .u64 (B : Nat), .int .i64 (m : Int)], .int .u64 ((A - 1 : Nat) : Int)] W fun e w' => e = .returned (.bool false) ∧ Below W.heap.size W w') := fun W => by
                  refine (rings_any W (n := A - 1) (a := B) (t := (m : Int)) (on := true) HK.out).mono ?_
                  rintro e w' ⟨rfl, h⟩
                  have : decide (B ≤ A - 1) = false := by simp; omega
                  exact ⟨by rw [this]; rfl, h⟩
                have HR3 := Lib.hid (fun W => HR1.out A W (Nat.le_refl _))
                have HR4 := Lib.hid (fun W => HR1.out B W (by omega))
                have hfi : fiV [⟨true, B, (m : Int)⟩, ⟨true, A, (m : Int)⟩, ⟨false, 0, 0⟩] = (A, true) := by
                  simp only [fiV, List.foldl, fiS]
                  by_cases h : A < B
                  · simp [h]
                  · have : A = B := by omega
                    simp [this]
                have HFI := Lib.hid hfi
                generalize A - 1 = A1 at *
                clear hR hn1 hn2 hn3 hAB hA1 hA2 HR1 hfi HK HAA HBB HDM HM HMM HN HO HR
                go_wp2_with fail
                have hal := alm_new wr ⟨true, B, (m : Int)⟩ ⟨true, A, (m : Int)⟩ ⟨false, 0, 0⟩ 62
                have hfst := first_any (cap := 3) hal (by simp)
                rw [HFI.out] at hfst
                refine hfst.mono ?_
                rintro e v0 ⟨rfl, hb0⟩
                have HC0 := Lib.hid ((HC.out.on ((Below.refl _ wr).alloc (Nat.le_refl _) _)).on hb0)
                clear hal hfst hb0 r0 r1 a0 a1 a2 b0 b1 b2 HC HFI
                obtain ⟨⟨r0, r1⟩, ⟨a0, a1, a2⟩, _⟩ := HC0.out.one.cells
                obtain ⟨⟨b0, b1, b2⟩, _⟩ := three HC0.out.two
                go_wp2_with fail
                refine (HR3.out _).mono ?_
                rintro e v1 ⟨rfl, hb1⟩
                have HC1 := Lib.hid (HC0.out.on hb1)
                clear hb1 HR3 HC0 r0 r1 a0 a1 a2 b0 b1 b2
                obtain ⟨⟨r0, r1⟩, ⟨a0, a1, a2⟩, _⟩ := HC1.out.one.cells
                obtain ⟨⟨b0, b1, b2⟩, _⟩ := three HC1.out.two
                go_wp2_with fail
                refine (HR4.out _).mono ?_
                rintro e v2 ⟨rfl, hb2⟩
                have HC2 := Lib.hid (HC1.out.on hb2)
                clear hb2 HR4 HC1 r0 r1 a0 a1 a2 b0 b1 b2
                obtain ⟨⟨r0, r1⟩, ⟨a0, a1, a2⟩, _⟩ := HC2.out.one.cells
                obtain ⟨⟨b0, b1, b2⟩, _⟩ := three HC2.out.two
                go_wp2_with fail
                refine (HR2.out _).mono ?_
                rintro e v3 ⟨rfl, hb3⟩
                have HC3 := Lib.hid (HC2.out.on hb3)
                clear hb3 HR2 HC2 r0 r1 a0 a1 a2 b0 b1 b2
                obtain ⟨⟨r0, r1⟩, ⟨a0, a1, a2⟩, _⟩ := HC3.out.one.cells
                obtain ⟨⟨b0, b1, b2⟩, _⟩ := three HC3.out.two
                go_wp2
                go_ret
                exact ⟨rfl, HC3.out.one.below⟩
      · have g2 : decide ((1152921504606846976 : Int) ≤ (q : Int)) = true := by simp; omega
        clear hno hqo
        go_wp2_with fail
        refine (check_ok _ HK.out).mono ?_
        rintro e w2 ⟨rfl, rfl⟩
        go_wp2
        go_ret
        exact ⟨rfl, HB2.out.alloc HB2.out.size _⟩
    · have g1 : decide ((1152921504606846976 : Int) ≤ (n : Int)) = true := by simp; omega
      clear hno
      go_wp2_with fail
      refine (check_ok _ HK.out).mono ?_
      rintro e w2 ⟨rfl, rfl⟩
      go_wp2
      go_ret
      exact ⟨rfl, HB2.out.alloc HB2.out.size _⟩
end Go.Proofs.Ytinihggcibghaaa
