/-
  The law StampRises.
-/
import Derived.Test.YtnecmlkljijofaaSp7
import Derived.Test.YtnecmlkljijofaaSpi
namespace Go.Proofs.Ytnecmlkljijofaa
set_option maxRecDepth 100000
set_option linter.unusedSimpArgs false
open Go Go.RowKit Sp

theorem ck_kept {w w' : World} {b e c : Nat} {X : Nat → Prop} (h : CkAt w b e c) (hk : Kept X w w') (hX : ¬ X b) : CkAt w' b e c := (hk.block b (blk_lt h) hX).trans h
/-- What holds of two stamps. -/
theorem rise_facts {a b C C1 D L n v u c2 nm : Nat} (hab : a < b) (hC1 : C1 = max C (n % 4294967296)) (hc : C1 < 4294967295) (hL : L ≤ a * 4294967296 + C) (hv : v = a * 4294967296 + C1 + 1) (hu : u = b * 4294967296 + D + 1) (h2 : c2 = C1 + 1) (hm : nm = n % 4294967296) :
    ¬ v ≤ L ∧ (v : Int) % 4294967296 = (c2 : Int) ∧ (n : Int) % 4294967296 = (nm : Int) ∧ ¬ c2 ≤ nm ∧ ¬ u ≤ v ∧ (v : Int) / 4294967296 = (a : Int) := by
  refine ⟨?_, ?_, ?_, ?_, ?_, ?_⟩ <;> omega

set_option maxHeartbeats 4000000 in
theorem rises_any {w : World} {a b : Nat} {A : Option Addr} {l : List Nat} {cap : Nat} (ha : a ≤ 4294967295) (hb : b ≤ 4294967295) (hA : NumsAt w A l) :
    Calls Try.prog 6 #[.int .u32 (a : Nat), .int .u32 (b : Nat), .slice A l.length cap] w fun x w' => x = .returned (.bool true) ∧ Below w.heap.size w w' := by
  obtain ⟨N, hN⟩ : ∃ N, N = l.length := ⟨_, rfl⟩
  rw [← hN]
  have HAl := Lib.hid (alive_any w)
  by_cases hl : 200 < N
  · have e1 : decide ((200 : Int) < (N : Int)) = true := by simp; omega
    have e2 : decide (200 < N) = true := by simpa using hl
    clear hA ha hb
    go_enter Try.func6, Try.ntmps6
    go_wp2_with fail
    refine HAl.out.mono ?_
    rintro e' W0 ⟨rfl, b0⟩
    have HB := Lib.hid b0
    clear b0
    go_wp2
    go_ret
    exact ⟨rfl, HB.out⟩
  · have e1 : decide ((200 : Int) < (N : Int)) = false := by simp; omega
    have e2 : decide (200 < N) = false := by simpa using hl
    by_cases hab : b ≤ a
    · have e3 : decide ((b : Int) ≤ (a : Int)) = true := by simpa using hab
      have e4 : decide (b ≤ a) = true := by simpa using hab
      clear hA ha hb
      go_enter Try.func6, Try.ntmps6
      go_wp2_with fail
      refine HAl.out.mono ?_
      rintro e' W0 ⟨rfl, b0⟩
      have HB := Lib.hid b0
      clear b0
      go_wp2
      go_ret
      exact ⟨rfl, HB.out⟩
    · have e3 : decide ((b : Int) ≤ (a : Int)) = false := by simpa using hab
      have e4 : decide (b ≤ a) = false := by simpa using hab
      have HA := Lib.hid hA
      have HN := Lib.hid hN
      clear hA hN
      go_enter Try.func6, Try.ntmps6
      go_wp2_with fail
      refine HAl.out.mono ?_
      rintro e' W0 ⟨rfl, b0⟩
      have HB0 := Lib.hid b0
      have H1 := Lib.hid (ck_new W0 a)
      clear b0 HAl
      go_wp2_with fail
      refine H1.out.mono ?_
      rintro e' W1 ⟨rfl, q1, b1, z1⟩
      have HB1 := Lib.hid b1
      have HZ1 := Lib.hid z1
      have HQ1 := Lib.hid q1
      have H2 := Lib.hid (ck_new W1 b)
      clear q1 b1 z1 H1
      go_wp2_with fail
      refine H2.out.mono ?_
      rintro e' W2 ⟨rfl, q2, b2, _⟩
      obtain ⟨X, hX⟩ : ∃ X : Nat → Prop, X = fun k => k = W0.heap.size ∨ k = W1.heap.size := ⟨_, rfl⟩
      have HBD : Hid (W0.heap.size ≠ W1.heap.size) := by have := HZ1.out; show _ ≠ _; omega
      have hw0 : w.heap.size ≤ W0.heap.size := HB0.out.size
      have HX0 : Hid (∀ k, k < w.heap.size → ¬ X k) := fun k hk => by have := HZ1.out; rw [hX]; omega
      have HXg : Hid (∀ k, X k → w.heap.size ≤ k) := fun k hk => by have := HZ1.out; rw [hX] at hk; omega
      have HXb : Hid (X W0.heap.size ∧ X W1.heap.size) := by rw [hX]; exact ⟨.inl rfl, .inr rfl⟩
      have HQ2 := Lib.hid (ck_kept HQ1.out (Kept.of_below (X := fun _ => False) b2 (Nat.le_refl _)) id)
      have HR2 := Lib.hid q2
      have HK2 : Hid (Kept X w W2) := by
        show Kept _ _ _
        have h0 : Kept X w W0 := Kept.of_below HB0.out (Nat.le_refl _)
        have h1 : Kept (fun _ => False) W0 W1 := Kept.of_below HB1.out (Nat.le_refl _)
        have h2 : Kept (fun _ => False) W1 W2 := Kept.of_below b2 (Nat.le_refl _)
        exact (h0.trans h1 (fun _ _ h => h.elim)).trans h2 (fun _ _ h => h.elim)
      clear q2 b2 HB1 HZ1 HQ1 H2 hX hw0
      go_wp2_with fail
      go_loopw [36, 10] (fun u q wr => ∃ (j C L : Nat), j ≤ N ∧ u = .int .i64 (j : Int) ∧ q = .int .u64 (L : Nat) ∧ L ≤ a * 4294967296 + C ∧ C ≤ 4294967295 ∧ CkAt wr W0.heap.size a C ∧ CkAt wr W1.heap.size b j ∧ Kept X w wr) (fun u _ _ => N - (intOf u).toNat)
      case atStart => exact ⟨0, 0, 0, Nat.zero_le _, rfl, rfl, by omega, by omega, HQ2.out, HR2.out, HK2.out⟩
      case round =>
        obtain ⟨j, C, L, hj, rfl, rfl, hL, hC, hq, hr, hk⟩ := hrel
        rename World => V
        by_cases hlt : j < N
        · obtain ⟨ad, rfl, c00⟩ := HA.out j (by rw [← HN.out]; exact hlt)
          have HBA : Hid (¬ (ad.add j).block = W0.heap.size ∧ ¬ (ad.add j).block = W1.heap.size) := by
            have := World.block_lt_of_cell? w _ c00
            have h1 := HX0.out _ this
            exact ⟨fun e => h1 (e ▸ HXb.out.1), fun e => h1 (e ▸ HXb.out.2)⟩
          have c0 := hk.cell c00 (HX0.out _ (World.block_lt_of_cell? w _ c00))
          clear c00
          have HJ := Lib.hid hlt
          have HKK := Lib.hid hk
          have j0 : (0 : Int) ≤ (j : Int) := by omega
          have j1 : (j : Int) < (N : Int) := by omega
          clear hk hj
          generalize l.getD j 0 = n at *
          go_wp2_with fail
          refine (hear_at (n := n) hq).mono ?_
          rintro e' W3 ⟨rfl, hq1, hk1⟩
          have hr1 := ck_kept hr hk1 (fun h => HBD.out h.symm)
          have HK1 := Lib.hid (HKK.out.trans hk1 (fun i _ h => h ▸ HXb.out.1))
          have c1 := hk1.cell c0 HBA.out.1
          obtain ⟨C1, hC1⟩ : ∃ C1, C1 = max C (n % 4294967296) := ⟨_, rfl⟩
          rw [← hC1] at hq1
          clear hq hr hk1 c0 HKK
          by_cases hend : C1 = 4294967295
          · have HE := Lib.hid (next_end hq1 ha hend)
            have HR1 := Lib.hid hr1
            clear hq1 hr1 c1 hC1 hL
            go_wp2_with fail
            refine HE.out.mono ?_
            rintro e' W4 ⟨rfl, hk4⟩
            have HR4 := Lib.hid (next_lit (ck_kept HR1.out hk4 (fun h => HBD.out h.symm)) (n := ((b * 4294967296 + j + 1 : Nat) : Int)) hb (by omega) rfl)
            have HK4 := Lib.hid (HK1.out.trans hk4 (fun i _ h => h ▸ HXb.out.1))
            generalize ((b * 4294967296 + j + 1 : Nat) : Int) = u at *
            clear hk4 HR1 HE HK1
            go_wp2_with fail
            refine HR4.out.mono ?_
            rintro e' W5 ⟨rfl, _, hk5⟩
            have HF := Lib.hid ((HK4.out.trans hk5 (fun i _ h => h ▸ HXb.out.2)).below (B := w.heap.size) HXg.out (Nat.le_refl _))
            clear hk5 HR4 HK4
            go_wp2
            go_ret
            exact ⟨rfl, HF.out⟩
          · obtain ⟨v, hv⟩ : ∃ v, v = a * 4294967296 + C1 + 1 := ⟨_, rfl⟩
            obtain ⟨u, hu⟩ : ∃ u, u = b * 4294967296 + j + 1 := ⟨_, rfl⟩
            obtain ⟨c2, hc2⟩ : ∃ c2, c2 = C1 + 1 := ⟨_, rfl⟩
            obtain ⟨nm, hnm⟩ : ∃ nm, nm = n % 4294967296 := ⟨_, rfl⟩
            obtain ⟨f1, f2, f3, f4, f5, f6⟩ := rise_facts (by omega) hC1 (by omega) hL hv hu hc2 hnm
            have HE := Lib.hid (next_lit hq1 (n := (v : Int)) ha (by omega) (by rw [hv]))
            have HR1 := Lib.hid hr1
            have HC2 : Hid (c2 ≤ 4294967295) := by show _ ≤ _; omega
            have HL2 : Hid (v ≤ a * 4294967296 + c2) := by show _ ≤ _; omega
            have HU : Hid (((b * 4294967296 + j + 1 : Nat) : Int) = (u : Int)) := by show _ = _; rw [hu]
            have g1 : decide ((v : Int) ≤ (L : Int)) = false := by simp; omega
            have g1' : decide (v ≤ L) = false := by simpa using f1
            have g4 : decide ((c2 : Int) ≤ (nm : Int)) = false := by simp; omega
            have g4' : decide (c2 ≤ nm) = false := by simpa using f4
            have g5 : decide ((u : Int) ≤ (v : Int)) = false := by simp; omega
            have g5' : decide (u ≤ v) = false := by simpa using f5
            have f2' : IntKind.u32.wrap (v : Int) = (c2 : Int) := by rw [← f2]; simp [IntKind.wrap, IntKind.bits, IntKind.signed]
            have f3' : IntKind.u32.wrap (n : Int) = (nm : Int) := by rw [← f3]; simp [IntKind.wrap, IntKind.bits, IntKind.signed]
            rw [← hc2] at HE
            clear hq1 hr1 hL hv hu hnm hC1 f1 f4 f5 hc2 hC
            go_wp2_with fail
            refine HE.out.mono ?_
            rintro e' W4 ⟨rfl, hq4, hk4⟩
            have HR4 := Lib.hid (next_lit (ck_kept HR1.out hk4 (fun h => HBD.out h.symm)) (n := (u : Int)) hb (by omega) HU.out)
            have HK4 := Lib.hid (HK1.out.trans hk4 (fun i _ h => h ▸ HXb.out.1))
            have c4 := hk4.cell c1 HBA.out.1
            have HQ4 := Lib.hid hq4
            clear hk4 HR1 HE HK1 hq4 c1
            go_wp2_with fail
            refine HR4.out.mono ?_
            rintro e' W5 ⟨rfl, hr5, hk5⟩
            have c5 := hk5.cell c4 HBA.out.2
            have HQ5 := Lib.hid (ck_kept HQ4.out hk5 HBD.out)
            have HR5 := Lib.hid hr5
            have HK5 := Lib.hid (HK4.out.trans hk5 (fun i _ h => h ▸ HXb.out.2))
            clear hk5 HR4 HK4 hr5 c4 HQ4
            go_wp2
            go_roundw
            case rel => exact ⟨j + 1, c2, v, HJ.out, by go_num, rfl, HL2.out, HC2.out, HQ5.out, HR5.out, HK5.out⟩
            case measure => have := HJ.out; simp [intOf]; omega
        · have HF := Lib.hid (hk.below (B := w.heap.size) HXg.out (Nat.le_refl _))
          go_wp2
          go_ret
          exact ⟨rfl, HF.out⟩
end Go.Proofs.Ytnecmlkljijofaa
