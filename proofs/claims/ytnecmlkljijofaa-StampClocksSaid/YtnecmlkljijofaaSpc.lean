/-
  The law StampClocks.
-/
import Derived.Test.YtnecmlkljijofaaSp6
import Derived.Test.YtnecmlkljijofaaSpi
namespace Go.Proofs.Ytnecmlkljijofaa
set_option maxRecDepth 100000
set_option linter.unusedSimpArgs false
open Go Go.RowKit Sp

/-- The document's clock. -/
def RkAt (w : World) (b : Nat) (e c : Nat) : Prop := w.heap[b]? = some (.cells #[.int .u64 (e : Nat), .int .u64 (c : Nat)] 29 (0, 0))
theorem rhear_at {w : World} {b e c n : Nat} (h : RkAt w b e c) :
    Calls Try.prog 11 #[.pointer (some ⟨b, 0, none⟩), .int .u64 (n : Nat)] w fun x w' => x = .returned (.tuple #[]) ∧ RkAt w' b e (max c (n % 4294967296)) ∧ Kept (fun k => k = b) w w' := by
  have c1 : w.cell? ⟨b, 1, none⟩ = some (.int .u64 (c : Nat)) := by rw [blk_cell h]; rfl
  have f1 := blk_free h 1
  have H := Lib.hid h
  have HS := Lib.hid (blk_set h 1 (.int .u64 ((n % 4294967296 : Nat) : Int)))
  obtain ⟨m, hm⟩ : ∃ m, m = n % 4294967296 := ⟨_, rfl⟩
  have hr : Int.tmod (n : Int) 4294967296 = (m : Int) := by rw [hm]; rfl
  have hr2 : (n : Int) % 4294967296 = (m : Int) := by rw [hm]; rfl
  rw [← hm] at HS ⊢
  have hm2 : m ≤ 4294967295 := by omega
  clear hm h
  by_cases hc : c < m
  · rw [Nat.max_eq_right (by omega)]
    have e1 : decide (c < m) = true := by simpa using hc
    have e2 : decide ((c : Int) < (m : Int)) = true := by simpa using hc
    go_enter Try.func11, Try.ntmps11
    go_wp2
    exact bodyPost_end (results_none rfl _ _ _) rfl ⟨rfl, HS.out, (Kept.refl (fun k => k = b) w).setCell (p := ⟨b, 1, none⟩) (.inl rfl) _⟩
  · rw [Nat.max_eq_left (by omega)]
    have e1 : decide (c < m) = false := by simpa using hc
    have e2 : decide ((c : Int) < (m : Int)) = false := by simpa using hc
    clear HS
    go_enter Try.func11, Try.ntmps11
    go_wp2
    exact bodyPost_end (results_none rfl _ _ _) rfl ⟨rfl, H.out, Kept.refl _ _⟩
theorem rnext_at {w : World} {b e c : Nat} (h : RkAt w b e c) (he : e ≤ 4294967295) (hc : c ≤ 4294967295) :
    Calls Try.prog 13 #[.pointer (some ⟨b, 0, none⟩)] w fun x w' => x = .returned (.tuple #[.int .u64 ((if c = 4294967295 then 0 else e * 4294967296 + c + 1 : Nat) : Int), .int .i64 (if c = 4294967295 then 120 else 0)]) ∧ RkAt w' b e (if c = 4294967295 then c else c + 1) ∧ Kept (fun k => k = b) w w' := by
  have c1 : w.cell? ⟨b, 1, none⟩ = some (.int .u64 (c : Nat)) := by rw [blk_cell h]; rfl
  have f1 := blk_free h 1
  by_cases hm : c = 4294967295
  · subst hm
    have H := Lib.hid h
    clear f1 h
    go_enter Try.func13, Try.ntmps13
    go_wp2
    refine bodyPost_ret (v := .tuple #[.int .u64 0, .int .i64 120]) (by simp [results, Try.results13, go_sem]) rfl ⟨rfl, H.out, Kept.refl _ _⟩
  · rw [if_neg hm, if_neg hm, if_neg hm]
    have e1 : decide ((4294967295 : Int) ≤ (c : Int)) = false := by simp; omega
    have e1' : ¬ (4294967295 : Int) ≤ (c : Int) := by omega
    have e1'' : ¬ (4294967295 : Nat) ≤ c := by omega
    have hw : IntKind.u64.wrap ((c : Int) + 1) = (c : Int) + 1 := by rw [IntKind.wrap_u64]; omega
    have HS := Lib.hid (blk_set h 1 (.int .u64 ((c : Int) + 1)))
    go_enter Try.func13, Try.ntmps13
    go_wp2
    obtain ⟨W2, hW2⟩ : ∃ W2, w.setCell ⟨b, 1, none⟩ (.int .u64 ((c : Int) + 1)) = W2 := ⟨_, rfl⟩
    have hb : W2.heap[b]? = some (.cells #[.int .u64 (e : Nat), .int .u64 ((c : Int) + 1)] 29 (0, 0)) := by rw [← hW2]; exact HS.out
    have HK := Lib.hid (show Kept (fun k => k = b) w W2.drew by rw [← hW2]; exact ((Kept.refl (fun k => k = b) w).setCell (p := ⟨b, 1, none⟩) (.inl rfl) _).drew)
    rw [hW2]
    clear hW2 HS h c1 f1 e1 e1' e1''
    have d0 : W2.cell? ⟨b, 0, none⟩ = some (.int .u64 (e : Nat)) := by rw [blk_cell hb]; rfl
    have d1 : W2.cell? ⟨b, 1, none⟩ = some (.int .u64 ((c : Int) + 1)) := by rw [blk_cell hb]; rfl
    have d0' : W2.drew.cell? ⟨b, 0, none⟩ = some (.int .u64 (e : Nat)) := d0
    have d1' : W2.drew.cell? ⟨b, 1, none⟩ = some (.int .u64 ((c : Int) + 1)) := d1
    have w1 : IntKind.u64.wrap ((e : Int) * 4294967296) = (e : Int) * 4294967296 := by rw [IntKind.wrap_u64]; omega
    have w2 : IntKind.u64.wrap ((e : Int) * 4294967296 + ((c : Int) + 1)) = (e : Int) * 4294967296 + ((c : Int) + 1) := by rw [IntKind.wrap_u64]; omega
    have HB := Lib.hid hb
    clear hb
    go_region
    go_wp2
    refine bodyPost_ret (v := .tuple #[.int .u64 ((e : Int) * 4294967296 + ((c : Int) + 1)), .int .i64 0]) (results_tmp2 (t := 2) (u := 3) rfl _ _ _) rfl ⟨by rw [show ((e * 4294967296 + c + 1 : Nat) : Int) = (e : Int) * 4294967296 + ((c : Int) + 1) by omega], HB.out, HK.out⟩
-- LAW
theorem CkAt.kept {w w' : World} {b e c : Nat} {X : Nat → Prop} (h : CkAt w b e c) (hk : Kept X w w') (hX : ¬ X b) : CkAt w' b e c := (hk.block b (blk_lt h) hX).trans h
theorem RkAt.kept {w w' : World} {b e c : Nat} {X : Nat → Prop} (h : RkAt w b e c) (hk : Kept X w w') (hX : ¬ X b) : RkAt w' b e c := (hk.block b (blk_lt h) hX).trans h
theorem both_next {e c : Nat} (he : e ≤ 4294967295) (hc : c ≤ 4294967295) : ∃ (vv er : Int) (c2 : Nat), c2 ≤ 4294967295 ∧
    (∀ w b, CkAt w b e c → Calls Try.prog 12 #[.pointer (some ⟨b, 0, none⟩)] w fun x w' => x = .returned (.tuple #[.int .u64 vv, .int .i64 er]) ∧ CkAt w' b e c2 ∧ Kept (fun k => k = b) w w') ∧
    (∀ w b, RkAt w b e c → Calls Try.prog 13 #[.pointer (some ⟨b, 0, none⟩)] w fun x w' => x = .returned (.tuple #[.int .u64 vv, .int .i64 er]) ∧ RkAt w' b e c2 ∧ Kept (fun k => k = b) w w') :=
  ⟨_, _, _, (by split <;> omega), fun _ _ h => next_at h he hc, fun _ _ h => rnext_at h he hc⟩
set_option maxHeartbeats 4000000 in
theorem clocks_any {w : World} {e : Nat} {A : Option Addr} {l : List Nat} {cap : Nat} (he : e ≤ 4294967295) (hA : NumsAt w A l) (hx : ∀ x ∈ l, x ≤ 18446744073709551615) :
    Calls Try.prog 3 #[.int .u32 (e : Nat), .slice A l.length cap] w fun x w' => x = .returned (.bool true) ∧ Below w.heap.size w w' := by
  obtain ⟨N, hN⟩ : ∃ N, N = l.length := ⟨_, rfl⟩
  rw [← hN]
  by_cases hl : 200 < N
  · have e1 : decide ((200 : Int) < (N : Int)) = true := by simp; omega
    have e2 : decide (200 < N) = true := by simpa using hl
    go_enter Try.func3, Try.ntmps3
    go_wp2
    go_ret
    exact ⟨rfl, Below.refl _ _⟩
  · have e1 : decide ((200 : Int) < (N : Int)) = false := by simp; omega
    have e2 : decide (200 < N) = false := by simpa using hl
    have H1 := Lib.hid (ck_new w e)
    have HA := Lib.hid hA
    have HN := Lib.hid hN
    have HX := Lib.hid hx
    clear hA hN hx
    go_enter Try.func3, Try.ntmps3
    go_wp2_with fail
    refine H1.out.mono ?_
    rintro e' W1 ⟨rfl, q1, b1, z1⟩
    obtain ⟨X, hX⟩ : ∃ X : Nat → Prop, X = fun k => k = w.heap.size ∨ k = W1.heap.size := ⟨_, rfl⟩
    have HBD : Hid (w.heap.size ≠ W1.heap.size) := by show _ ≠ _; omega
    have HX0 : Hid (∀ k, k < w.heap.size → ¬ X k) := fun k hk => by rw [hX]; omega
    have HXg : Hid (∀ k, X k → w.heap.size ≤ k) := fun k hk => by rw [hX] at hk; omega
    have HXb : Hid (X w.heap.size ∧ X W1.heap.size) := by rw [hX]; exact ⟨.inl rfl, .inr rfl⟩
    have HW2 : Hid (∃ W2, W1.alloc (.cells #[.int .u64 (e : Nat), .int .u64 0] 29) = W2 ∧ CkAt W2 w.heap.size e 0 ∧ RkAt W2 W1.heap.size e 0 ∧ Kept X w W2) := by
      refine ⟨_, rfl, ?_, ?_, ?_⟩
      · exact q1.kept (X := fun _ => False) ((Kept.refl _ W1).alloc _) id
      · exact World.alloc_heap_new _ _
      · exact (Kept.of_below b1 (Nat.le_refl _)).alloc _
    have hw0 : IntKind.u64.wrap (e : Int) = (e : Int) := by rw [IntKind.wrap_u64]; omega
    clear q1 b1 z1 H1 hX
    go_wp2_with fail
    obtain ⟨W2, hW2, q2, r2, k2⟩ := HW2.out
    rw [hW2]
    have HQ2 := Lib.hid q2
    have HR2 := Lib.hid r2
    have HK2 := Lib.hid k2
    clear HW2 hW2 q2 r2 k2
    go_loopw [23] (fun u wr => ∃ (j C : Nat), j ≤ N ∧ u = .int .i64 (j : Int) ∧ C ≤ 4294967295 ∧ CkAt wr w.heap.size e C ∧ RkAt wr W1.heap.size e C ∧ Kept X w wr) (fun u _ => N - (intOf u).toNat)
    case atStart => exact ⟨0, 0, Nat.zero_le _, rfl, by omega, HQ2.out, HR2.out, HK2.out⟩
    case round =>
      obtain ⟨j, C, hj, rfl, hC, hq, hr, hk⟩ := hrel
      rename World => V
      by_cases hlt : j < N
      · obtain ⟨a, rfl, c00⟩ := HA.out j (by rw [← HN.out]; exact hlt)
        have HBA : Hid (¬ (a.add j).block = w.heap.size) := by
          have := World.block_lt_of_cell? w _ c00
          show ¬ _ = _
          omega
        have c0 := hk.cell c00 (HX0.out _ (World.block_lt_of_cell? w _ c00))
        clear c00
        have hn : l.getD j 0 ≤ 18446744073709551615 := by
          have hj2 : j < l.length := by rw [← HN.out]; exact hlt
          refine HX.out _ ?_
          simp only [List.getD_eq_getElem?_getD, List.getElem?_eq_getElem hj2, Option.getD_some]
          exact List.getElem_mem hj2
        have HJ := Lib.hid hlt
        have HKK := Lib.hid hk
        have j0 : (0 : Int) ≤ (j : Int) := by omega
        have j1 : (j : Int) < (N : Int) := by omega
        clear hk hj
        generalize l.getD j 0 = n at *
        obtain ⟨m, hm⟩ : ∃ m, m = n % 3 := ⟨_, rfl⟩
        have m1 : Int.tmod (n : Int) 3 = (m : Int) := by rw [hm]; rfl
        have m2 : (n : Int) % 3 = (m : Int) := by rw [hm]; rfl
        clear hm
        by_cases h3 : 0 < m
        · have e3 : decide ((0 : Int) < (m : Int)) = true := by simp; omega
          have e4 : decide (0 < m) = true := by simpa using h3
          go_wp2_with fail
          refine (hear_at (n := n) hq).mono ?_
          rintro e' W3 ⟨rfl, hq1, hk1⟩
          have hr1 := hr.kept hk1 (fun h => HBD.out h.symm)
          have HK1 := Lib.hid (HKK.out.trans hk1 (fun i _ h => h ▸ HXb.out.1))
          have c0' := hk1.cell c0 HBA.out
          clear hq hr hk1 c0 HKK
          go_wp2_with fail
          refine (rhear_at (n := n) hr1).mono ?_
          rintro e' W3b ⟨rfl, hq2, hk2⟩
          have hq1b := hq1.kept hk2 HBD.out
          have HK3 := Lib.hid (HK1.out.trans hk2 (fun i _ h => h ▸ HXb.out.2))
          clear hr1 hk2 hq1 HK1 c0'
          have hc1 : max C (n % 4294967296) ≤ 4294967295 := by omega
          generalize max C (n % 4294967296) = C at *
          go_wp2_with fail
          obtain ⟨vv, er, C2, hC2, N1, N2⟩ := both_next he hc1
          refine (N1 _ _ hq1b).mono ?_
          rintro e' W4 ⟨rfl, hq3, hk3⟩
          have hq4 := hq2.kept hk3 (fun h => HBD.out h.symm)
          have HK4 := Lib.hid (HK3.out.trans hk3 (fun i _ h => h ▸ HXb.out.1))
          have HN2 := Lib.hid (N2 _ _ hq4)
          clear hq1b hq2 hk3 HK3 N1 N2 hq4
          go_wp2_with fail
          refine HN2.out.mono ?_
          rintro e' W5 ⟨rfl, hq5, hk5⟩
          have HQ3 := Lib.hid (hq3.kept hk5 HBD.out)
          have HQ5 := Lib.hid hq5
          have HK5 := Lib.hid (HK4.out.trans hk5 (fun i _ h => h ▸ HXb.out.2))
          have HC2 := Lib.hid hC2
          clear hq3 hq5 hk5 HK4 hc1 HN2 hC2
          go_wp2
          go_roundw
          case rel => exact ⟨j + 1, C2, HJ.out, by go_num, HC2.out, HQ3.out, HQ5.out, HK5.out⟩
          case measure => have := HJ.out; simp [intOf]; omega
        · have e3 : decide ((0 : Int) < (m : Int)) = false := by simp; omega
          have e4 : decide (0 < m) = false := by simpa using h3
          obtain rfl : m = 0 := by omega
          have hq1b := hq
          have hq2 := hr
          have HK3 := HKK
          have hc1 := hC
          clear hq hr HKK
          go_wp2_with fail
          obtain ⟨vv, er, C2, hC2, N1, N2⟩ := both_next he hc1
          refine (N1 _ _ hq1b).mono ?_
          rintro e' W4 ⟨rfl, hq3, hk3⟩
          have hq4 := hq2.kept hk3 (fun h => HBD.out h.symm)
          have HK4 := Lib.hid (HK3.out.trans hk3 (fun i _ h => h ▸ HXb.out.1))
          have HN2 := Lib.hid (N2 _ _ hq4)
          clear hq1b hq2 hk3 HK3 N1 N2 hq4
          go_wp2_with fail
          refine HN2.out.mono ?_
          rintro e' W5 ⟨rfl, hq5, hk5⟩
          have HQ3 := Lib.hid (hq3.kept hk5 HBD.out)
          have HQ5 := Lib.hid hq5
          have HK5 := Lib.hid (HK4.out.trans hk5 (fun i _ h => h ▸ HXb.out.2))
          have HC2 := Lib.hid hC2
          clear hq3 hq5 hk5 HK4 hc1 HN2 hC2
          go_wp2
          go_roundw
          case rel => exact ⟨j + 1, C2, HJ.out, by go_num, HC2.out, HQ3.out, HQ5.out, HK5.out⟩
          case measure => have := HJ.out; simp [intOf]; omega
      · have HF := Lib.hid (hk.below (B := w.heap.size) HXg.out (Nat.le_refl _))
        go_wp2
        go_ret
        exact ⟨rfl, HF.out⟩
end Go.Proofs.Ytnecmlkljijofaa
