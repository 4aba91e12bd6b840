/-
  The law AlarmChain.
-/
import Derived.Test.YtinihggcibghaaaA2
import Derived.Deep.DeepCutAuto
import Derived.Deep.CutBlock
import Derived.Deep.RegionHeld3
namespace Go.Proofs.Ytinihggcibghaaa
set_option maxRecDepth 100000
set_option linter.unusedSimpArgs false
open Go Go.RowKit

/-- A rule's box, and an alarm's. -/
structure Ch (w : World) (ab b c a : Nat) (t : Int) (W : World) : Prop where
  below : Below w.heap.size w W
  r : W.heap[w.heap.size]? = some (.cells #[.int .u64 (b : Nat), .int .u64 (c : Nat)] 65 (0, 0))
  a : W.heap[ab]? = some (.cells #[.bool true, .int .u64 (a : Nat), .int .i64 t] 62 (0, 0))
  lt : w.heap.size < ab
theorem Ch.on {w : World} {ab b c a : Nat} {t : Int} {W W' : World} (h : Ch w ab b c a t W) (hb : Below W.heap.size W W') : Ch w ab b c a t W' :=
  ⟨h.below.trans (hb.mono h.below.size), (hb.block _ (blk_lt h.r)).trans h.r, (hb.block _ (blk_lt h.a)).trans h.a, h.lt⟩
theorem Ch.set {w : World} {ab b c a : Nat} {t : Int} {W : World} (h : Ch w ab b c a t W) (a' : Nat) (t' : Int) :
    Ch w ab b c a' t' (((W.setCell ⟨ab, 0, none⟩ (.bool true)).setCell ⟨ab, 1, none⟩ (.int .u64 (a' : Nat))).setCell ⟨ab, 2, none⟩ (.int .i64 t')) := by
  have hne := h.lt
  refine ⟨((h.below.setCell (p := ⟨ab, 0, none⟩) (by simp; omega) _).setCell (p := ⟨ab, 1, none⟩) (by simp; omega) _).setCell (p := ⟨ab, 2, none⟩) (by simp; omega) _, ?_, blk_set (blk_set (blk_set h.a 0 (.bool true)) 1 (.int .u64 (a' : Nat))) 2 (.int .i64 t'), h.lt⟩
  rw [Below.heap_setCell _ _ _ _ (by simp; omega), Below.heap_setCell _ _ _ _ (by simp; omega), Below.heap_setCell _ _ _ _ (by simp; omega)]
  exact h.r
theorem Ch.cells {w : World} {ab b c a : Nat} {t : Int} {W : World} (h : Ch w ab b c a t W) :
    (W.cell? ⟨w.heap.size, 0, none⟩ = some (.int .u64 (b : Nat)) ∧ W.cell? ⟨w.heap.size, 1, none⟩ = some (.int .u64 (c : Nat))) ∧
    (W.cell? ⟨ab, 0, none⟩ = some (.bool true) ∧ W.cell? ⟨ab, 1, none⟩ = some (.int .u64 (a : Nat)) ∧ W.cell? ⟨ab, 2, none⟩ = some (.int .i64 t)) ∧ W.frozen? ⟨ab, 0, none⟩ = false ∧ W.frozen? ⟨ab, 1, none⟩ = false ∧ W.frozen? ⟨ab, 2, none⟩ = false :=
  ⟨two h.r, three h.a⟩

set_option maxHeartbeats 2000000 in
theorem chain_any (w : World) {b c n o : Nat} (ho : o ≤ 255) (hn : n ≤ topT) :
    Calls Try.prog 8 #[ruV b c, .int .u64 (n : Nat), .int .u8 (o : Nat)] w fun e w' => e = .returned (.bool true) ∧ Below w.heap.size w w' := by
  have R1 := Lib.hid (World.alloc_heap_new w (.cells #[.int .u64 (b : Nat), .int .u64 (c : Nat)] 65))
  have hb1 : Below w.heap.size w (w.alloc (.cells #[.int .u64 (b : Nat), .int .u64 (c : Nat)] 65)) := (Below.refl _ w).alloc (Nat.le_refl _) _
  have HB1 := Lib.hid hb1
  have HO := Lib.hid ho
  have HN := Lib.hid hn
  clear hb1 ho hn
  go_enter Try.func8, Try.ntmps8
  go_wp2_with fail
  refine (alive_any _).mono ?_
  rintro e w1 ⟨rfl, hb⟩
  have R2 := Lib.hid ((hb.block _ (blk_lt R1.out)).trans R1.out)
  have HB2 := Lib.hid (HB1.out.trans (hb.mono HB1.out.size))
  clear hb R1 HB1
  obtain ⟨r0, r1⟩ := two R2.out
  cases hok : okR b c with
  | false =>
    have HK := Lib.hid hok
    clear hok
    go_wp2_with fail
    refine (check_bad _ HK.out).mono ?_
    rintro e w2 ⟨rfl, rfl⟩
    go_wp2
    go_ret
    exact ⟨rfl, HB2.out.alloc HB2.out.size _⟩
  | true =>
    have HK := Lib.hid hok
    have hrb : 1 ≤ b ∧ b ≤ c ∧ c ≤ 4294967296 := by simpa [okR] using hok
    have HR := Lib.hid hrb
    clear hok hrb
    by_cases hno : n < 1152921504606846976
    · have g1 : decide ((1152921504606846976 : Int) ≤ (n : Int)) = false := by simp; omega
      have HNO := Lib.hid hno
      clear hno
      go_wp2_with fail
      refine (check_ok _ HK.out).mono ?_
      rintro e w2 ⟨rfl, rfl⟩
      have R3 := Lib.hid ((Below.heap_alloc w1 (ruO b c) _ (blk_lt R2.out)).trans R2.out)
      have HB3 := Lib.hid (HB2.out.alloc HB2.out.size (ruO b c))
      clear r0 r1
      obtain ⟨r0, r1⟩ := two R3.out
      go_wp2_with fail
      refine (start_any _ HK.out HN.out).mono ?_
      rintro e w3 ⟨rfl, hb3⟩
      have hbe : beh n b = n + dly b c 0 := by
        rw [dly_zero HR.out.2.1 (by omega), beh]
        have := HR.out
        have := HNO.out
        unfold topT
        omega
      rw [hbe]
      have hch : Ch w w3.heap.size b c (n + dly b c ((0 : Nat) : Int)) ((0 : Nat) : Int) (w3.alloc (.cells #[.bool true, .int .u64 (n + dly b c ((0 : Nat) : Int) : Nat), .int .i64 ((0 : Nat) : Int)] 62)) := by
        have hs := (HB3.out.trans (hb3.mono HB3.out.size))
        have hlt := blk_lt R3.out
        refine ⟨hs.alloc hs.size _, (Below.heap_alloc _ _ _ (by have := hb3.size; omega)).trans ((hb3.block _ hlt).trans R3.out), World.alloc_heap_new _ _, by have := hb3.size; omega⟩
      have HCH := Lib.hid hch
      clear r0 r1 hch hb3 hbe R2 R3 HB2 HB3 HN g1
      go_wp2_with fail
      obtain ⟨ab, hab⟩ : ∃ ab, ab = w3.heap.size := ⟨_, rfl⟩
      obtain ⟨m, hm⟩ : ∃ m, m = o % 60 := ⟨_, rfl⟩
      have hm2 : (wrap64 (o : Int)).tmod 60 = (m : Int) := by
        have := HO.out
        rw [IntWalk.wrap64_in _ (by omega), Int.tmod_eq_emod_of_nonneg (by omega)]
        omega
      have HM : Hid (m < 60) := by show _ < _; omega
      rw [← hab] at HCH ⊢
      clear hm hab
      go_loopw [1, 9] (fun q i wr => ∃ (N j : Nat), j ≤ m ∧ N < 1152921504606846976 + j * 4294967296 ∧ q = .int .u64 (N : Nat) ∧ i = .int .i64 (j : Int) ∧ Ch w ab b c (N + dly b c (j : Int)) (j : Int) wr) (fun _ i _ => m - (intOf i).toNat)
      case atStart => exact ⟨n, 0, by omega, by simpa using HNO.out, rfl, rfl, HCH.out⟩
      case round =>
        obtain ⟨N, j, hj, hN, rfl, rfl, hC⟩ := hrel
        by_cases hlt : j < m
        · obtain ⟨A, hA⟩ : ∃ A, A = N + dly b c (j : Int) := ⟨_, rfl⟩
          rw [← hA] at hC
          have h1 : b ≤ dly b c (j : Int) := dly_pos HR.out.2.1 _
          have h2 : dly b c (j : Int) ≤ c := dly_le _ _ _
          have h3 : dly b c ((j : Int) + 1) ≤ c := dly_le _ _ _
          have hR := HR.out
          have hM := HM.out
          have x1 : IntKind.u64.wrap ((N : Int) + (b : Int)) = (N : Int) + (b : Int) := u64_in (by omega) (by omega)
          have x2 : IntKind.u64.wrap ((N : Int) + (c : Int)) = (N : Int) + (c : Int) := u64_in (by omega) (by omega)
          have x3 : IntKind.u64.wrap ((A : Int) - 1) = ((A - 1 : Nat) : Int) := by rw [u64_in (by omega) (by omega)]; omega
          have x4 : IntKind.i64.wrap ((j : Int) + 1) = (j : Int) + 1 := IntWalk.i64_in _ (by omega)
          have e1 : decide ((A : Int) < (N : Int) + (b : Int)) = false := by simp; omega
          have e2 : decide ((N : Int) + (c : Int) < (A : Int)) = false := by simp; omega
          have HAN : Hid (A < 1152921504606846976 + (j + 1) * 4294967296) := by show _ < _; omega
          have hAt : A ≤ topT := by unfold topT; omega
          have hj1 : agT (j : Int) = (j : Int) + 1 := by unfold agT; omega
          have hbe : beh A (dly b c ((j : Int) + 1)) = A + dly b c ((j : Int) + 1) := by unfold beh topT; omega
          have HR1 : Hid (∀ W, Calls Try.prog 31 #[.agg #[.int .u64 (b : Nat), .int .u64 (c : Nat)], .agg #[.bool true, .int .u64 (A : Nat), .int .i64 (j : Int)], .int .u64 (A : Nat)] W fun e w' => e = .returned (.bool true) ∧ Below W.heap.size W w') := fun W => by
            refine (rings_any W (n := A) (a := A) (t := (j : Int)) (on := true) HK.out).mono ?_
            rintro e w' ⟨rfl, h⟩
            exact ⟨by simp, h⟩
          have HR2 : Hid (∀ W, Calls Try.prog 31 #[.agg #[.int .u64 (b : Nat), .int .u64 (c : Nat)], .agg #[.bool true, .int .u64 (A : Nat), .int .i64 (j : Int)], .int .u64 ((A - 1 : Nat) : Int)] W fun e w' => e = .returned (.bool false) ∧ Below W.heap.size W w') := fun W => by
            refine (rings_any W (n := A - 1) (a := A) (t := (j : Int)) (on := true) HK.out).mono ?_
            rintro e w' ⟨rfl, h⟩
            have : decide (A ≤ A - 1) = false := by simp; omega
            exact ⟨by rw [this]; rfl, h⟩
          have HAG : Hid (∀ W, Calls Try.prog 26 #[.agg #[.int .u64 (b : Nat), .int .u64 (c : Nat)], .agg #[.bool true, .int .u64 (A : Nat), .int .i64 (j : Int)], .int .u64 (A : Nat)] W fun e w' => e = .returned (.agg #[.bool true, .int .u64 (A + dly b c ((j : Int) + 1) : Nat), .int .i64 ((j : Int) + 1)]) ∧ Below W.heap.size W w') := fun W => by
            refine (again_any W (n := A) (a := A) (t := (j : Int)) HK.out hAt (by omega)).mono ?_
            rintro e w' ⟨rfl, h⟩
            rw [hj1, hbe]
            exact ⟨rfl, h⟩
          generalize A - 1 = A1 at *
          have HJ := Lib.hid hj
          have HLT := Lib.hid hlt
          have e0 : decide ((j : Int) < (m : Int)) = true := by simp; omega
          generalize hD : A + dly b c ((j : Int) + 1) = D at *
          have HD := Lib.hid hD
          clear hD h1 h2 h3 hR hM hj hA hAt hj1 hbe hN HK HCH
          have HC := Lib.hid hC
          obtain ⟨⟨r0, r1⟩, ⟨a0, a1, a2⟩, z0, z1, z2⟩ := hC.cells
          clear hC
          go_wp2_with fail
          refine (HR1.out _).mono ?_
          rintro e v1 ⟨rfl, hb1⟩
          have HC1 := Lib.hid (HC.out.on hb1)
          clear hb1 HR1 r0 r1 a0 a1 a2 z0 z1 z2
          obtain ⟨⟨r0, r1⟩, ⟨a0, a1, a2⟩, z0, z1, z2⟩ := HC1.out.cells
          go_wp2_with fail
          refine (HR2.out _).mono ?_
          rintro e v2 ⟨rfl, hb2⟩
          have HC2 := Lib.hid (HC1.out.on hb2)
          clear hb2 HR2 r0 r1 a0 a1 a2 z0 z1 z2
          obtain ⟨⟨r0, r1⟩, ⟨a0, a1, a2⟩, z0, z1, z2⟩ := HC2.out.cells
          go_wp2_with fail
          refine (HAG.out _).mono ?_
          rintro e v3 ⟨rfl, hb3⟩
          have HC3 := Lib.hid ((HC2.out.on hb3).set D ((j : Int) + 1))
          have hC4 := HC2.out.on hb3
          clear hb3 HAG r0 r1 a0 a1 a2 z0 z1 z2 HC HC1 HC2
          obtain ⟨⟨r0, r1⟩, ⟨a0, a1, a2⟩, z0, z1, z2⟩ := hC4.cells
          clear hC4
          go_wp2
          go_roundw
          case rel => exact ⟨A, j + 1, by have := HLT.out; omega, HAN.out, by rfl, by go_num, by push_cast; rw [HD.out]; exact HC3.out⟩
          case measure => have := HLT.out; simp [intOf]; omega
        · obtain rfl : j = m := by omega
          have HB := Lib.hid hC.below
          obtain ⟨⟨r0, r1⟩, ⟨a0, a1, a2⟩, z0, z1, z2⟩ := hC.cells
          generalize N + dly b c (j : Int) = A at *
          clear hC hN hlt hj
          go_wp2
          go_ret
          exact ⟨rfl, HB.out⟩
    · have g1 : decide ((1152921504606846976 : Int) ≤ (n : Int)) = true := by simp; omega
      clear hno
      go_wp2_with fail
      refine (check_ok _ HK.out).mono ?_
      rintro e w2 ⟨rfl, rfl⟩
      go_wp2
      go_ret
      exact ⟨rfl, HB2.out.alloc HB2.out.size _⟩
end Go.Proofs.Ytinihggcibghaaa
