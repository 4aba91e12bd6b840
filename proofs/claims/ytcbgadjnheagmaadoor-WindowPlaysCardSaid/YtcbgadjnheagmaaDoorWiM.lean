/-
  The law WindowMisses: its walk.
-/
import Derived.Test.YtcbgadjnheagmaaDoorWi9
namespace Go.Proofs.YtcbgadjnheagmaaDoor
set_option maxRecDepth 100000
set_option linter.unusedSimpArgs false
open Go Go.RowKit

theorem misses_long {w : World} {A : Option Addr} {n cap : Nat} (hT : Tab w) (hn : 300 < n) :
    Calls Tryd.prog 7 #[.slice A n cap] w fun e w' => e = .returned (.bool true) ∧ Below w.heap.size w w' := by
  have HA := Lib.hid (alive_any hT)
  have e1 : decide ((300 : Int) < (n : Int)) = true := by simp; omega
  have e2 : decide (300 < n) = true := by simpa using hn
  clear hT hn
  go_enter Tryd.func7, Tryd.ntmps7
  go_wp2_with fail
  refine HA.out.mono ?_
  rintro e w1 ⟨rfl, hb1⟩
  have HB1 := Lib.hid hb1
  clear hb1
  go_wp2
  go_ret
  exact ⟨rfl, HB1.out⟩

/-- A window of the call's own, between two calls. -/
structure WinI (w : World) (b : Nat) (l e : Nat) (W : World) : Prop where
  win : WinAt W b l e
  ok : Wd.Ok l e
  below : Below w.heap.size w W
  hb : w.heap.size ≤ b
theorem WinI.tab {w W : World} {b l e : Nat} (h : WinI w b l e W) (hT : Tab w) : Tab W := hT.below h.below
theorem WinI.still {w W W' : World} {b l e : Nat} (h : WinI w b l e W) (hk : Below W.heap.size W W') : WinI w b l e W' :=
  ⟨h.win.kept (still_of hk) id, h.ok, h.below.trans (hk.mono h.below.size), h.hb⟩
theorem WinI.meet {w W W' : World} {b l e n : Nat} (h : WinI w b l e W) (hn : n ≤ 4294967295) (h1 : WinAt W' b (Wd.nl l e n) (Wd.ne l e n)) (hk : Kept (fun k => k = b) W W') : WinI w b (Wd.nl l e n) (Wd.ne l e n) W' :=
  ⟨h1, Wd.step_ok h.ok hn, ⟨hk.os.trans h.below.os, hk.tape.trans h.below.tape, hk.output.trans h.below.output, Nat.le_trans h.below.size hk.size, fun k hk' => (hk.block k (Nat.lt_of_lt_of_le hk' h.below.size) (by have := h.hb; omega)).trans (h.below.block k hk')⟩, h.hb⟩
theorem WinI.meet_c {w W : World} {b l e n : Nat} (h : WinI w b l e W) (hT : Tab w) (hn : n ≤ 4294967295) :
    Calls Tryd.prog 8 #[.pointer (some ⟨b, 0, none⟩), .int .u32 (n : Nat)] W fun x w' => x = .returned (.int .i64 (Wd.code l e n : Nat)) ∧ WinI w b (Wd.nl l e n) (Wd.ne l e n) w' ∧ Kept (fun k => k = b) W w' := by
  refine (meet_any h.win h.ok hn (h.tab hT) (by have := hT.lt; have := h.hb; omega)).mono ?_
  rintro x w' ⟨rfl, h1, h2⟩
  exact ⟨rfl, h.meet hn h1 h2, h2⟩

set_option maxHeartbeats 2000000 in
theorem misses_few {w : World} {A : Option Addr} {L : List Nat} {cap : Nat} (hT : Tab w) (hn : L.length ≤ 300) (hA : NumsAt .u32 w A L) (hL : ∀ x ∈ L, x ≤ 4294967295) :
    Calls Tryd.prog 7 #[.slice A L.length cap] w fun e w' => e = .returned (.bool true) ∧ Below w.heap.size w w' := by
  have HA := Lib.hid (alive_any hT)
  have HN : Hid (∀ W j, Below w.heap.size w W → j < L.length → ∃ a, A = some a ∧ W.cell? (a.add j) = some (.int .u32 ((L.getD j 0 : Nat) : Int)) ∧ L.getD j 0 ≤ 4294967295) := by
    intro W j hb hj
    obtain ⟨a, h1, _, h2⟩ := (hA.below hb (Nat.le_refl _)) j hj
    refine ⟨a, h1, h2, hL _ ?_⟩
    rw [List.getD_eq_getElem?_getD, List.getElem?_eq_getElem hj]
    exact List.getElem_mem hj
  have HT := Lib.hid hT
  obtain ⟨N, hN⟩ : ∃ N, N = L.length := ⟨_, rfl⟩
  rw [← hN] at hn HN ⊢
  have e1 : decide ((300 : Int) < (N : Int)) = false := by simp; omega
  have e2 : decide (300 < N) = false := by simp; omega
  have HNN := Lib.hid hn
  clear hT hn hA hL hN
  go_enter Tryd.func7, Tryd.ntmps7
  go_wp2_with fail
  refine HA.out.mono ?_
  rintro e w1 ⟨rfl, hb1⟩
  obtain ⟨w2, hw2⟩ : ∃ w2, w1.alloc (.cells #[.int .u32 0, .int .u64 0] 27) = w2 := ⟨_, rfl⟩
  have h2 : WinI w w1.heap.size 0 0 w2 := ⟨by rw [← hw2]; exact heap_alloc_new w1 _, Wd.ok_zero, by rw [← hw2]; exact hb1.alloc hb1.size _, hb1.size⟩
  have HS : Hid (∃ (j l e : Nat), j ≤ N ∧ (Value.int .i64 0) = .int .i64 (j : Int) ∧ WinI w w1.heap.size l e w2) := ⟨0, 0, 0, Nat.zero_le _, rfl, h2⟩
  clear hb1 h2 HA
  go_wp2
  go_loopw [22] (fun i wr => ∃ (j l e : Nat), j ≤ N ∧ i = .int .i64 (j : Int) ∧ WinI w w1.heap.size l e wr) (fun i _ => N - (intOf i).toNat)
  case atStart => exact HS.out
  case round =>
    obtain ⟨j, l, e, hj, rfl, hI⟩ := hrel
    rename World => V
    clear HS hw2
    by_cases hjN : j < N
    · obtain ⟨a, rfl, hc, hx⟩ := HN.out V j hI.below hjN
      generalize L.getD j 0 = x at *
      have q0 : (0 : Int) ≤ (j : Int) := by omega
      have q1 : (j : Int) < (N : Int) := by omega
      have HM := Lib.hid (hI.meet_c HT.out hx)
      have HJ := Lib.hid hjN
      clear hI hj hjN
      go_wp2_with fail
      refine HM.out.mono ?_
      rintro y w3 ⟨rfl, hI3, _⟩
      generalize Wd.nl l e x = l1 at *
      generalize Wd.ne l e x = e1 at *
      clear HM
      have HE := Lib.hid (early_any hI3.win hI3.ok)
      go_wp2_with fail
      refine HE.out.mono ?_
      rintro y w4 ⟨va, rfl, ho4, hb4⟩
      have hI4 := hI3.still hb4
      have ha4 := IsU.of_row ho4
      have HE := Lib.hid (missing_any hI4.win hI4.ok)
      clear ho4 hb4 hI3
      go_wp2_with fail
      refine HE.out.mono ?_
      rintro y w5 ⟨vb, rfl, ho5, hb5⟩
      have hI5 := Lib.hid (hI4.still hb5)
      have ha5 := Lib.hid (ha4.kept (still_of hb5) (fun _ _ => id))
      have hb5' := Lib.hid (IsU.of_row ho5)
      clear ho5 hb5 hI4 ha4 HE
      obtain ⟨aa, ca, rfl, _, hca⟩ := ha5.out
      obtain ⟨ab, cb, rfl, _, hcb⟩ := hb5'.out
      have hlf := Wd.len_facts hI5.out.ok
      have HL5 := Lib.hid (last_any hI5.out.win)
      have HC : Hid ((∀ j, j < (Wd.early l1 e1).length → ∃ g, aa = some ⟨g, 0, none⟩ ∧ w5.cell? ⟨g, j, none⟩ = some (.int .u32 (((Wd.early l1 e1).getD j 0 : Nat) : Int))) ∧ (∀ j, j < (Wd.miss l1 e1).length → ∃ g, ab = some ⟨g, 0, none⟩ ∧ w5.cell? ⟨g, j, none⟩ = some (.int .u32 (((Wd.miss l1 e1).getD j 0 : Nat) : Int)))) := ⟨hca, hcb⟩
      have HAE : Hid (∀ p n k, Wd.AtP l1 e1 p n k → p = Wd.top e1 → n = (Wd.early l1 e1).length ∧ k = (Wd.miss l1 e1).length) := fun p n k h1 h2 => Wd.atP_end h1 h2
      have HAS : Hid (∀ p n k, Wd.AtP l1 e1 p n k → p < Wd.top e1 → e1.testBit p = true → (n < (Wd.early l1 e1).length ∧ (Wd.early l1 e1).getD n 0 = l1 + 1 + p) ∧ Wd.AtP l1 e1 (p + 1) (n + 1) k) := fun p n k h1 h2 h3 => Wd.atP_set h1 h2 h3
      have HAC : Hid (∀ p n k, Wd.AtP l1 e1 p n k → p < Wd.top e1 → e1.testBit p = false → (n < (Wd.early l1 e1).length ∧ (Wd.early l1 e1).getD n 0 ≠ l1 + 1 + p) ∧ (k < (Wd.miss l1 e1).length ∧ (Wd.miss l1 e1).getD k 0 = l1 + 1 + p) ∧ Wd.AtP l1 e1 (p + 1) n (k + 1)) := fun p n k h1 h2 h3 => Wd.atP_clear h1 h2 h3
      have HB : Hid (∀ p, p < Wd.top e1 → l1 + 1 + p ≤ 4294967295 ∧ p < 64) := by
        intro p hp
        have h1 := Wd.top_set e1.testBit 64 (by unfold Wd.top at hp; omega)
        have h2 := hI5.out.ok.hb _ h1
        have h3 := Wd.top_le e1
        unfold Wd.top at hp h3
        omega
      have HSI : Hid (∃ p n k : Nat, Wd.AtP l1 e1 p n k ∧ (Value.int .i64 0) = .int .i64 (n : Int) ∧ (Value.int .i64 0) = .int .i64 (k : Int)) := ⟨0, 0, 0, Wd.atP_zero _ _, rfl, rfl⟩
      clear hca hcb hb5' ha5
      generalize (Wd.early l1 e1).length = LA at *
      generalize (Wd.miss l1 e1).length = LB at *
      have HLF := Lib.hid hlf
      clear hlf
      go_wp2
      go_loopw [8, 9] (fun n k wr => ∃ p n' k' : Nat, Wd.AtP l1 e1 p n' k' ∧ n = .int .i64 (n' : Int) ∧ k = .int .i64 (k' : Int) ∧ w5 = wr) (fun n k _ => Wd.top e1 - ((intOf n).toNat + (intOf k).toNat))
      case atStart =>
        obtain ⟨p, n, k, h1, h2, h3⟩ := HSI.out
        exact ⟨p, n, k, h1, h2, h3, rfl⟩
      case round =>
        obtain ⟨p, n, k, hP, rfl, rfl, rfl⟩ := hrel
        clear HSI
        by_cases hpt : p < Wd.top e1
        · obtain ⟨hb1, hb2⟩ := HB.out p hpt
          have hsum := hP.sum
          have s1 : IntKind.i64.wrap ((n : Int) + (k : Int)) = (p : Int) := by rw [IntWalk.i64_in _ (by omega)]; omega
          have s2 : IntKind.u32.wrap ((l1 : Int) + 1) = (l1 : Int) + 1 := u32_in (by omega) (by omega)
          have s3 : IntKind.u32.wrap (p : Int) = (p : Int) := u32_in (by omega) (by omega)
          have s4 : IntKind.u32.wrap ((l1 : Int) + 1 + (p : Int)) = ((l1 + 1 + p : Nat) : Int) := by rw [u32_in (by omega) (by omega)]; push_cast; rfl
          have s5 : IntKind.i64.wrap ((n : Int) + 1) = (n : Int) + 1 := IntWalk.i64_in _ (by omega)
          have s6 : IntKind.i64.wrap ((k : Int) + 1) = (k : Int) + 1 := IntWalk.i64_in _ (by omega)
          have n0 : (0 : Int) ≤ (n : Int) := by omega
          have k0 : (0 : Int) ≤ (k : Int) := by omega
          cases ht : e1.testBit p
          · obtain ⟨⟨h1, h2⟩, ⟨h3, h4⟩, h5⟩ := HAC.out p n k hP hpt ht
            obtain ⟨g, rfl, hc1⟩ := HC.out.1 n h1
            obtain ⟨g', rfl, hc2⟩ := HC.out.2 k h3
            rw [h4] at hc2
            generalize (Wd.early l1 e1).getD n 0 = z at *
            have d1 : decide ((n : Int) < (LA : Int)) = true := by simpa using h1
            have d2 : decide (n < LA) = true := by simpa using h1
            have d3 : decide ((k : Int) < (LB : Int)) = true := by simpa using h3
            have d4 : decide (k < LB) = true := by simpa using h3
            have d5 : ((z : Int) == ((l1 + 1 + p : Nat) : Int)) = false := by
              have : ¬ (z : Int) = ((l1 + 1 + p : Nat) : Int) := by omega
              simpa using this
            have d6 : (n : Int) < (LA : Int) := by omega
            have d7 : (k : Int) < (LB : Int) := by omega
            have HX : Hid (∃ p n' k' : Nat, Wd.AtP l1 e1 p n' k' ∧ (Value.int .i64 (n : Int)) = .int .i64 (n' : Int) ∧ (Value.int .i64 ((k : Int) + 1)) = .int .i64 (k' : Int)) := ⟨p + 1, n, k + 1, h5, rfl, by push_cast; rfl⟩
            have HM : Hid (n + k < Wd.top e1) := by rw [hsum]; exact hpt
            generalize l1 + 1 + p = y at *
            clear hP hpt hb1 hb2 hsum h1 h2 h3 h4 h5
            go_wp2_with fail
            refine HL5.out.mono ?_
            rintro y' w6 ⟨rfl, hw6⟩
            rw [hw6]
            clear hw6
            go_wp2
            obtain ⟨p', n', k', r1, r2, r3⟩ := HX.out
            exact ⟨⟨p', n', k', r1, r2, r3, by trivial⟩, by simp [intOf]; have := HM.out; omega⟩
          · obtain ⟨⟨h1, h2⟩, h5⟩ := HAS.out p n k hP hpt ht
            obtain ⟨g, rfl, hc1⟩ := HC.out.1 n h1
            rw [h2] at hc1
            have d1 : decide ((n : Int) < (LA : Int)) = true := by simpa using h1
            have d2 : decide (n < LA) = true := by simpa using h1
            have d6 : (n : Int) < (LA : Int) := by omega
            have HX : Hid (∃ p n' k' : Nat, Wd.AtP l1 e1 p n' k' ∧ (Value.int .i64 ((n : Int) + 1)) = .int .i64 (n' : Int) ∧ (Value.int .i64 (k : Int)) = .int .i64 (k' : Int)) := ⟨p + 1, n + 1, k, h5, by push_cast; rfl, rfl⟩
            have HM : Hid (n + k < Wd.top e1) := by rw [hsum]; exact hpt
            generalize l1 + 1 + p = y at *
            clear hP hpt hb1 hb2 hsum h1 h2 h5
            go_wp2_with fail
            refine HL5.out.mono ?_
            rintro y' w6 ⟨rfl, hw6⟩
            rw [hw6]
            clear hw6
            go_wp2
            obtain ⟨p', n', k', r1, r2, r3⟩ := HX.out
            exact ⟨⟨p', n', k', r1, r2, r3, by trivial⟩, by simp [intOf]; have := HM.out; omega⟩
        · obtain ⟨hn1, hk1⟩ := HAE.out p n k hP (by have := hP.le; omega)
          subst hn1 hk1
          obtain ⟨lf1, lf2, lf3⟩ := HLF.out
          have d1 : decide ((n : Int) < (n : Int)) = false := by simp
          have d3 : decide ((k : Int) < (k : Int)) = false := by simp
          have s1 : IntKind.i64.wrap ((n : Int) + (k : Int)) = (n : Int) + (k : Int) := IntWalk.i64_in _ (by omega)
          have d4 : decide ((64 : Int) < (n : Int) + (k : Int)) = false := by simp; omega
          have HX : Hid (∃ (j' l e : Nat), j' ≤ N ∧ (Value.int .i64 ((j : Int) + 1)) = .int .i64 (j' : Int) ∧ WinI w w1.heap.size l e w5) := ⟨j + 1, l1, e1, HJ.out, by push_cast; rfl, hI5.out⟩
          have s7 : IntKind.i64.wrap ((j : Int) + 1) = (j : Int) + 1 := IntWalk.i64_in _ (by have := HJ.out; have := HNN.out; omega)
          by_cases h0 : n = 0
          · have h00 := lf3 h0
            subst h0 h00
            clear hP hpt lf1 lf2 lf3
            go_wp2
            exact ⟨HX.out, by simp [intOf]; have := HJ.out; omega⟩
          · have hk0 := lf1 (by omega)
            have d5 : decide ((0 : Int) < (n : Int)) = true := by simp; omega
            have d6 : ((k : Int) == 0) = false := by
              have : ¬ (k : Int) = 0 := by omega
              simpa using this
            have d7 : ((n : Int) == 0) = false := by
              have : ¬ (n : Int) = 0 := by omega
              simpa using this
            have d8 : decide (0 < n) = true := by simp; omega
            clear hP hpt lf1 lf2 lf3 h0 hk0
            go_wp2
            exact ⟨HX.out, by simp [intOf]; have := HJ.out; omega⟩
    · obtain rfl : j = N := by omega
      have HF := Lib.hid hI.below
      clear hI hj
      go_wp2
      go_ret
      exact ⟨rfl, HF.out⟩
theorem misses_any {w : World} {A : Option Addr} {L : List Nat} {cap : Nat} (hT : Tab w) (hA : NumsAt .u32 w A L) (hL : ∀ x ∈ L, x ≤ 4294967295) :
    Calls Tryd.prog 7 #[.slice A L.length cap] w fun e w' => e = .returned (.bool true) ∧ Below w.heap.size w w' := by
  by_cases h : 300 < L.length
  · exact misses_long hT h
  · exact misses_few hT (by omega) hA hL
end Go.Proofs.YtcbgadjnheagmaaDoor
