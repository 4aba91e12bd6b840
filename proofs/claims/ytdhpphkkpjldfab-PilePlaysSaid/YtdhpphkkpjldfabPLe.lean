/-
  The law PileLeast: its walk.
-/
import Derived.Test.YtdhpphkkpjldfabPTr
import Derived.IntWalk
namespace Go.Proofs.Ytdhpphkkpjldfab
set_option maxRecDepth 100000
open Go Go.RowKit Pq

theorem at_drop (l : List It) (k i : Nat) : at_ (l.drop k) i = at_ l (k + i) := by
  unfold at_; rw [List.getD_eq_getElem?_getD, List.getD_eq_getElem?_getD, List.getElem?_drop]

/-- A list cut in three, and at once. -/
structure Cuts (s F G H R : List It) (l1 l2 l3 lr n a b : Nat) : Prop where
  lF : F.length = l1
  lG : G.length = l2
  lH : H.length = l3
  lR : R.length = lr
  ls : s.length = n
  sum : l1 + l2 = l3
  mn : l3 = min n (a + b)
  rest : lr = n - l3
  aF : ∀ i, i < l1 → at_ F i = at_ s i
  aG : ∀ i, l1 ≤ i → i < l3 → at_ G (i - l1) = at_ s i
  aH : ∀ i, i < l3 → at_ H i = at_ s i
  aR : ∀ i, i < lr → at_ R i = at_ s (l3 + i)

theorem cuts (s : List It) (a b : Nat) : Cuts s (s.take a) ((s.drop a).take b) (s.take (a + b)) ((s.drop a).drop b) (min a s.length) (min b (s.length - a)) (min (a + b) s.length) (s.length - a - b) s.length a b where
  lF := by simp
  lG := by simp
  lH := by simp
  lR := by simp; omega
  ls := rfl
  sum := by omega
  mn := by omega
  rest := by omega
  aF := fun i hi => at_take (by omega)
  aG := fun i h1 h2 => by
    have e : min a s.length = a := by omega
    rw [e] at h1 ⊢
    rw [at_take (by omega), at_drop]
    congr 1
    omega
  aH := fun i hi => at_take (by omega)
  aR := fun i hi => by
    rw [at_drop, at_drop]
    congr 1
    omega

set_option maxHeartbeats 1000000 in
theorem leasts_long {w : World} {A : Option Addr} {n cap : Nat} {a b : Int} (hn : 200 < n) :
    Calls Try.prog 7 #[.slice A n cap, .int .u8 a, .int .u8 b] w fun e w' => e = .returned (.bool true) ∧ Below w.heap.size w w' := by
  go_enter Try.func7, Try.ntmps7
  go_wp2_with fail
  refine (alive_any _).mono ?_
  rintro e w1 ⟨rfl, hb1⟩
  have HB := Lib.hid hb1
  clear hb1
  go_wp2
  go_ret
  exact ⟨rfl, HB.out⟩

set_option maxHeartbeats 4000000 in
theorem leasts_any {w : World} {A : Option Addr} {l : List It} {cap a b : Nat} (hA : ItemsAt w A l) (hn : l.length ≤ 200) (ha : a ≤ 255) (hb : b ≤ 255) :
    Calls Try.prog 7 #[.slice A l.length cap, .int .u8 (a : Int), .int .u8 (b : Int)] w fun e w' => e = .returned (.bool true) ∧ Below w.heap.size w w' := by
  have HA := Lib.hid hA
  clear hA
  go_enter Try.func7, Try.ntmps7
  go_wp2_with fail
  refine (alive_any _).mono ?_
  rintro e w1 ⟨rfl, hb1⟩
  have hs1 := hb1.size
  have HS1 : Hid (∀ t, Sys w.heap.size w [⟨w1.heap.size + 1, 0, none, []⟩, ⟨w1.heap.size, 0, none, []⟩] [] [] ((w1.alloc (.cells #[.slice none 0 0] t)).alloc (.cells #[.slice none 0 0] t))) := fun t => by
    have := ((Sys.start (Nat.le_refl _) hb1).newPile t).newPile t
    rwa [World.size_alloc] at this
  clear hb1
  generalize hN : l.length = n at *
  have HN := Lib.hid hN
  clear hN
  go_wp2
  go_loopw [35] (fun v wr => ∃ (k : Nat) (r1 r2 : Option Nat), k ≤ n ∧ v = .int .i64 (k : Int) ∧ Sys w.heap.size w [⟨w1.heap.size + 1, 0, r1, srt (l.take k)⟩, ⟨w1.heap.size, 0, r2, srt (l.take k)⟩] [] [] wr) (fun v _ => n - (intOf v).toNat)
  case atStart => exact ⟨0, none, none, by omega, rfl, HS1.out _⟩
  case round =>
    obtain ⟨k, r1, r2, hk, rfl, hS⟩ := hrel
    have HS := Lib.hid hS
    clear hS
    by_cases hlt : k < n
    · have hkl : k < l.length := by rw [HN.out]; exact hlt
      obtain ⟨a', rfl, hab, c0, c1, c2⟩ := (HA.out.below HS.out.below (Nat.le_refl _)) k hkl
      clear hab
      have HP : Hid (Calls Try.prog 9 #[.pointer (some ⟨w1.heap.size, 0, none⟩), .agg #[.int .i64 (at_ l k).c, .int .i64 (at_ l k).t, .int .i64 (at_ l k).i]] wr fun e w' => e = .returned (.tuple #[]) ∧ ∃ r', Sys w.heap.size w [⟨w1.heap.size + 1, 0, r1, srt (l.take k)⟩, ⟨w1.heap.size, 0, r', srt (l.take (k + 1))⟩] [] [] w') := by
        refine (push_s (HS.out.pile 1 _ rfl).1 (at_ l k) (by rw [srt_length]; simp; omega)).mono fun e w' hq => ⟨hq.1, ?_⟩
        obtain ⟨r', h1⟩ := HS.out.push (i := 1) rfl hq
        refine ⟨r', ?_⟩
        rw [take_snoc hkl, srt_snoc]
        exact h1
      have HP2 : Hid (∀ W r', Sys w.heap.size w [⟨w1.heap.size + 1, 0, r1, srt (l.take k)⟩, ⟨w1.heap.size, 0, r', srt (l.take (k + 1))⟩] [] [] W → (W.cell? (a'.add (k * 3)) = some (.int .i64 (at_ l k).c) ∧ W.cell? ⟨(a'.add (k * 3)).block, (a'.add (k * 3)).off + 1, none⟩ = some (.int .i64 (at_ l k).t) ∧ W.cell? ⟨(a'.add (k * 3)).block, (a'.add (k * 3)).off + 2, none⟩ = some (.int .i64 (at_ l k).i)) ∧
          Calls Try.prog 9 #[.pointer (some ⟨w1.heap.size + 1, 0, none⟩), .agg #[.int .i64 (at_ l k).c, .int .i64 (at_ l k).t, .int .i64 (at_ l k).i]] W fun e w' => e = .returned (.tuple #[]) ∧ ∃ r1', Sys w.heap.size w [⟨w1.heap.size + 1, 0, r1', srt (l.take (k + 1))⟩, ⟨w1.heap.size, 0, r', srt (l.take (k + 1))⟩] [] [] w') := by
        intro W r' hW
        obtain ⟨a2, e2, _, d0, d1, d2⟩ := (HA.out.below hW.below (Nat.le_refl _)) k hkl
        cases e2
        refine ⟨⟨d0, d1, d2⟩, (push_s (hW.pile 0 _ rfl).1 (at_ l k) (by rw [srt_length]; simp; omega)).mono fun e w' hq => ⟨hq.1, ?_⟩⟩
        obtain ⟨r1', h1⟩ := hW.push (i := 0) rfl hq
        refine ⟨r1', ?_⟩
        have e3 : ins (at_ l k) (srt (l.take k)) = srt (l.take (k + 1)) := by rw [take_snoc hkl, srt_snoc]
        rw [← e3]
        rw [← e3] at h1
        exact h1
      clear hkl
      generalize at_ l k = x at *
      obtain ⟨x0, x1, x2⟩ := x
      simp only at *
      go_wp2_with fail
      refine HP.out.mono ?_
      rintro e w2 ⟨rfl, r', hq⟩
      obtain ⟨⟨d0, d1, d2⟩, hq2⟩ := HP2.out _ _ hq
      have HQ2 := Lib.hid hq2
      clear hq hq2 c0 c1 c2 HP HP2
      go_wp2_with fail
      refine HQ2.out.mono ?_
      rintro e w3 ⟨rfl, r1', hq⟩
      have HQ := Lib.hid hq
      clear hq
      go_wp2
      go_roundw
      case rel => exact ⟨k + 1, r1', r', by omega, by go_num, HQ.out⟩
      case measure => simp [intOf]; omega
    · obtain rfl : k = n := by omega
      have hS0 : Sys w.heap.size w [⟨w1.heap.size + 1, 0, r1, srt l⟩, ⟨w1.heap.size, 0, r2, srt l⟩] [] [] wr := by
        have e : l.take k = l := List.take_of_length_le (by rw [HN.out]; exact Nat.le_refl _)
        have := HS.out
        rwa [e] at this
      have HC := Lib.hid (cuts (srt l) a b)
      have hsl : (srt l).length = k := by rw [srt_length, HN.out]
      have HL := Lib.hid hsl
      have HS0 := Lib.hid hS0
      clear hS0 HS hsl
      generalize srt l = s at *
      go_wp2_with fail
      refine (all_any (HS0.out.pile 1 _ rfl).1 (by rw [HL.out]; omega)).mono ?_
      rintro e w3 hq3
      obtain ⟨v11, rfl, hS3⟩ := HS0.out.all (i := 1) rfl hq3
      have HS3 := Lib.hid hS3
      clear hS3 hq3 HS0
      go_wp2_with fail
      refine (least_any (HS3.out.pile 1 _ rfl).1 (by rw [HL.out]; omega) _).mono ?_
      rintro e w4 hq4
      obtain ⟨v12, rfl, hS4⟩ := HS3.out.least (i := 1) rfl hq4
      have HS4 := Lib.hid hS4
      clear hS4 hq4 HS3
      go_wp2_with fail
      refine (least_any (HS4.out.pile 1 _ rfl).1 (by show (s.drop _).length ≤ 9999; rw [List.length_drop, HL.out]; omega) _).mono ?_
      rintro e w5 hq5
      obtain ⟨v13, rfl, hS5⟩ := HS4.out.least (i := 1) rfl hq5
      have HS5 := Lib.hid hS5
      clear hS5 hq5 HS4
      go_wp2_with fail
      refine (least_any (HS5.out.pile 0 _ rfl).1 (by show s.length ≤ 9999; rw [HL.out]; omega) _).mono ?_
      rintro e w6 hq6
      obtain ⟨v14, rfl, hS6⟩ := HS5.out.least (i := 0) rfl hq6
      have e1 : ((a : Int) + (b : Int)).toNat = a + b := by omega
      have hS6' : Sys w.heap.size w [⟨w1.heap.size + 1, 0, r1, s.drop (a + b)⟩, ⟨w1.heap.size, 0, r2, (s.drop a).drop b⟩] [] [(v14, s.take (a + b)), (v13, (s.drop a).take b), (v12, s.take a), (v11, s)] w6 := by
        have := hS6
        simp only [Int.toNat_natCast, e1, List.set_cons_zero, List.set_cons_succ] at this
        exact this
      clear hS6 hq6 HS5 e1
      have hdd : (s.drop a).drop b = s.drop (a + b) := by rw [List.drop_drop]
      rw [hdd] at hS6'
      have HC' := HC.out
      rw [hdd] at HC'
      clear hdd HC
      generalize s.take (a + b) = H3 at *
      generalize (s.drop a).take b = G at *
      generalize s.take a = F at *
      generalize s.drop (a + b) = R at *
      generalize min a s.length = l1 at *
      generalize min b (s.length - a) = l2 at *
      generalize min (a + b) s.length = l3 at *
      generalize s.length - a - b = lr at *
      have hc1 := hS6'.cells (v := v14) (l := H3) (by simp)
      have hc2 := hS6'.cells (v := v13) (l := G) (by simp)
      have hc3 := hS6'.cells (v := v12) (l := F) (by simp)
      have hc4 := hS6'.cells (v := v11) (l := s) (by simp)
      obtain ⟨A14, cap14, rfl, _⟩ := hc1
      obtain ⟨A13, cap13, rfl, _⟩ := hc2
      obtain ⟨A12, cap12, rfl, _⟩ := hc3
      obtain ⟨A11, cap11, rfl, _⟩ := hc4
      rw [HC'.lH, HC'.lG, HC'.lF, HL.out] at hS6'
      rw [HC'.lH, HC'.lG, HC'.lF, HL.out]
      have HSum : Hid (l1 + l2 = l3) := HC'.sum
      have HMn : Hid (l3 = min k (a + b)) := by have := HC'.mn; rwa [HL.out] at this
      have HRest : Hid (lr = k - l3) := by have := HC'.rest; rwa [HL.out] at this
      have HC := Lib.hid HC'
      have HS6 := Lib.hid hS6'
      clear HC' hS6'
      have HL1 : Hid (∀ W m, W = w6.drewN m → Calls Try.prog 18 #[.pointer (some ⟨w1.heap.size, 0, none⟩)] W fun e w' => e = .returned (.int .i64 (lr : Int)) ∧ w' = W) := by
        rintro W m rfl
        have := len_s ((HS6.out.drewN m).pile 1 _ rfl).1
        refine this.mono fun e w' ⟨h1, h2⟩ => ⟨?_, h2.symm⟩
        rw [h1]
        show Ending.returned (.int .i64 (R.length : Int)) = _
        rw [HC.out.lR]
      have HL2 : Hid (∀ W m, W = w6.drewN m → Calls Try.prog 18 #[.pointer (some ⟨w1.heap.size + 1, 0, none⟩)] W fun e w' => e = .returned (.int .i64 (lr : Int)) ∧ w' = W) := by
        rintro W m rfl
        have := len_s ((HS6.out.drewN m).pile 0 _ rfl).1
        refine this.mono fun e w' ⟨h1, h2⟩ => ⟨?_, h2.symm⟩
        rw [h1]
        show Ending.returned (.int .i64 (R.length : Int)) = _
        rw [HC.out.lR]
      have b1 : ((l1 : Int) + (l2 : Int) != (l3 : Int)) = false := by rw [bne_eq_false_iff_eq]; have := HSum.out; omega
      have hl3 : l3 ≤ k := by have := HMn.out; omega
      have hl1 : l1 ≤ l3 := by have := HSum.out; omega
      have hl2 : l2 ≤ l3 := by have := HSum.out; omega
      have hcase : ((a : Int) + (b : Int) < (k : Int) ∧ ((l1 : Int) + (l2 : Int) != (a : Int) + (b : Int)) = false) ∨ ((k : Int) ≤ (a : Int) + (b : Int) ∧ ((l1 : Int) + (l2 : Int) != (k : Int)) = false) := by
        have h1 := HSum.out
        have h2 := HMn.out
        by_cases hq : a + b < k
        · exact .inl ⟨by omega, by rw [bne_eq_false_iff_eq]; omega⟩
        · exact .inr ⟨by omega, by rw [bne_eq_false_iff_eq]; omega⟩
      rcases hcase with ⟨hc1, hc2⟩ | ⟨hc1, hc2⟩
      all_goals
        go_wp2_with fail
        refine (HL1.out _ 0 rfl).mono ?_
        rintro e w7 ⟨rfl, rfl⟩
        go_wp2_with fail
        refine (HL2.out _ 0 rfl).mono ?_
        rintro e w7 ⟨rfl, rfl⟩
        clear HL1 HL2
        go_wp2
        go_loopw [98] (fun v wr => ∃ i : Nat, i ≤ l3 ∧ v = .int .i64 (i : Int) ∧ Sys w.heap.size w [⟨w1.heap.size + 1, 0, r1, R⟩, ⟨w1.heap.size, 0, r2, R⟩] [] [(.slice A14 l3 cap14, H3), (.slice A13 l2 cap13, G), (.slice A12 l1 cap12, F), (.slice A11 k cap11, s)] wr) (fun v _ => l3 - (intOf v).toNat)
        case atStart => exact ⟨0, by omega, rfl, HS6.out⟩
        case round =>
          obtain ⟨i, hi, rfl, hS⟩ := hrel
          have HS := Lib.hid hS
          clear hS
          by_cases hlt : i < l3
          · have hl1' := HC.out.lF
            have hl2' := HC.out.lG
            have hl3' := HC.out.lH
            have hls := HL.out
            obtain ⟨_, _, e4, f4⟩ := HS.out.cells (v := .slice A14 l3 cap14) (l := H3) (by simp)
            obtain ⟨_, _, e1, f1⟩ := HS.out.cells (v := .slice A11 k cap11) (l := s) (by simp)
            rw [hl3'] at e4 f4
            rw [hls] at e1 f1
            cases e4
            cases e1
            obtain ⟨g14, rfl, h0, h1, h2⟩ := f4 i hlt
            obtain ⟨g11, rfl, s0, s1, s2⟩ := f1 i (by omega)
            rw [HC.out.aH i hlt] at h0 h1 h2
            have HSA : Hid (∀ o m, Sys w.heap.size w [⟨w1.heap.size + 1, 0, r1, R⟩, ⟨w1.heap.size, 0, r2, R⟩] [] [(.slice (some ⟨g14, 0, none⟩) l3 cap14, H3), (.slice A13 l2 cap13, G), (.slice A12 l1 cap12, F), (.slice (some ⟨g11, 0, none⟩) k cap11, s)] ((wr.alloc o).drewN m)) := fun o m => (HS.out.alloc0 o).drewN m
            by_cases hlt1 : i < l1
            · obtain ⟨_, _, e2, f2⟩ := HS.out.cells (v := .slice A12 l1 cap12) (l := F) (by simp)
              rw [hl1'] at e2 f2
              cases e2
              obtain ⟨g12, rfl, t0, t1, t2⟩ := f2 i hlt1
              rw [HC.out.aF i hlt1] at t0 t1 t2
              have ah0 := cell_a1 h0
              have ah1 := cell_a1 h1
              have ah2 := cell_a1 h2
              have at0 := cell_a1 t0
              have at1 := cell_a1 t1
              have at2 := cell_a1 t2
              clear f1 f2 f4 hl1' hl2' hl3' hls
              generalize at_ s i = x at *
              obtain ⟨x0, x1, x2⟩ := x
              simp only at *
              go_wp2
              have dge : decide (l1 ≤ i) = false := by simpa using hlt1
              have dlt : decide (i < l1) = true := by simpa using hlt1
              go_quiet (fail)
              go_wp2
              exact ⟨⟨i + 1, by omega, by go_num, HSA.out _ _⟩, by simp [intOf]; omega⟩
            · obtain ⟨_, _, e2, f2⟩ := HS.out.cells (v := .slice A13 l2 cap13) (l := G) (by simp)
              rw [hl2'] at e2 f2
              cases e2
              have hlt2 : i - l1 < l2 := by have := HSum.out; omega
              have hge : l1 ≤ i := by omega
              obtain ⟨g13, rfl, t0, t1, t2⟩ := f2 (i - l1) hlt2
              rw [HC.out.aG i hge hlt] at t0 t1 t2
              have ah0 := cell_a1 h0
              have ah1 := cell_a1 h1
              have ah2 := cell_a1 h2
              have at0 := cell_a1 t0
              have at1 := cell_a1 t1
              have at2 := cell_a1 t2
              clear f1 f2 f4 hl1' hl2' hl3' hls
              generalize at_ s i = x at *
              obtain ⟨x0, x1, x2⟩ := x
              simp only at *
              go_wp2
              have dge : decide (l1 ≤ i) = true := by simpa using hge
              have dlt : decide (i < l1) = false := by simpa using hge
              have wr1 : IntKind.i64.wrap ((i : Int) - (l1 : Int)) = (i : Int) - (l1 : Int) := IntWalk.i64_in _ (by omega)
              have wr2 : (0 : Int) ≤ (i : Int) - (l1 : Int) := by omega
              have wr3 : ((i : Int) - (l1 : Int)).toNat = i - l1 := by omega
              have wr4 : (i : Int) - (l1 : Int) < (l2 : Int) := by omega
              go_quiet (fail)
              go_wp2
              exact ⟨⟨i + 1, by omega, by go_num, HSA.out _ _⟩, by simp [intOf]; omega⟩
          · go_wp2_with fail
            refine (all_any (HS.out.pile 1 _ rfl).1 (by show R.length ≤ 9999; rw [HC.out.lR, HRest.out]; omega)).mono ?_
            rintro e w8 hq8
            obtain ⟨v18, rfl, hS8⟩ := HS.out.all (i := 1) rfl hq8
            have HB8 := Lib.hid hS8.below
            obtain ⟨A18, cap18, rfl, hc18⟩ := hS8.cells (List.mem_cons_self ..)
            obtain ⟨_, _, e1, hc11⟩ := hS8.cells (v := .slice A11 k cap11) (l := s) (by simp)
            dsimp only at hc18
            rw [HC.out.lR] at hc18
            rw [HL.out] at e1 hc11
            cases e1
            have e2 : (⟨w1.heap.size, 0, r2, R⟩ : Pl).s.length = lr := HC.out.lR
            rw [e2]
            have HC18 := Lib.hid hc18
            have HC11 := Lib.hid hc11
            clear hS8 hq8 hc18 hc11 e2 HS
            have hlr : lr ≤ k := by have := HRest.out; omega
            have hl12 : (l1 : Int) + (l2 : Int) ≤ (k : Int) := by have := HSum.out; omega
            have hfin : ((lr : Int) == (k : Int) - ((l1 : Int) + (l2 : Int))) = true := by rw [beq_iff_eq]; have := HSum.out; have := HRest.out; omega
            go_wp2
            go_loopw [147] (fun v wr => ∃ (i m : Nat), i ≤ lr ∧ v = .int .i64 (i : Int) ∧ wr = w8.drewN m) (fun v _ => lr - (intOf v).toNat)
            case atStart => exact ⟨0, 0, by omega, rfl, rfl⟩
            case round =>
              obtain ⟨i, m, hi, rfl, rfl⟩ := hrel
              by_cases hlt2 : i < lr
              · obtain ⟨g18, rfl, p0, p1, p2⟩ := HC18.out i hlt2
                have hb3 : l1 + l2 + i < k := by have := HSum.out; have := HRest.out; omega
                obtain ⟨g11, rfl, s0, s1, s2⟩ := HC11.out (l1 + l2 + i) hb3
                rw [HC.out.aR i hlt2, ← HSum.out] at p0 p1 p2
                generalize at_ s (l1 + l2 + i) = x at *
                obtain ⟨x0, x1, x2⟩ := x
                simp only at *
                go_wp2
                have wr1 : IntKind.i64.wrap ((l1 : Int) + (l2 : Int) + (i : Int)) = (l1 : Int) + (l2 : Int) + (i : Int) := IntWalk.i64_in _ (by omega)
                have wr2 : (0 : Int) ≤ (l1 : Int) + (l2 : Int) + (i : Int) := by omega
                have wr3 : ((l1 : Int) + (l2 : Int) + (i : Int)).toNat = l1 + l2 + i := by omega
                have wr4 : (l1 : Int) + (l2 : Int) + (i : Int) < (k : Int) := by omega
                go_quiet (fail)
                go_wp2
                exact ⟨⟨i + 1, m + nq, by omega, by go_num, rfl⟩, by simp [intOf]; omega⟩
              · go_wp2
                go_ret
                exact ⟨rfl, below_dn HB8.out m⟩
end Go.Proofs.Ytdhpphkkpjldfab
