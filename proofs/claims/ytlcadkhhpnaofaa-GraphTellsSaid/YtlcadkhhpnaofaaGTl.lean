/-
  The law GraphTells: its walk.
-/
import Derived.Test.YtlcadkhhpnaofaaGTl1
import Derived.Deep.RegionHeld3
namespace Go.Proofs.Ytlcadkhhpnaofaa
set_option maxRecDepth 100000
open Go Go.RowKit Gq

theorem same_same {w : World} {va vb : Value} {l : List Int} (ha : IsL w va l) (hb : IsL w vb l) (h1 : l.length ≤ 100000) :
    Calls Try.prog 15 #[va, vb] w fun e w' => e = .returned (.bool true) ∧ Below w.heap.size w w' := by
  refine (same_any ha hb h1).mono ?_
  rintro e w' ⟨rfl, hs⟩
  exact ⟨by rw [decide_eq_true rfl], hs.below (fun _ h => h.elim) (Nat.le_refl _)⟩

/-- Cells that may be written, above B. -/
def OutC (B : Nat) (A : Option Addr) (s : Nat) (W : World) : Prop := ∀ j, j < s → ∃ q y, A = some ⟨q, 0, none⟩ ∧ B ≤ q ∧ W.cell? ⟨q, j, none⟩ = some y ∧ W.frozen? ⟨q, j, none⟩ = false
theorem OutC.below {B s : Nat} {A : Option Addr} {W W' : World} (h : OutC B A s W) (hb : Below W.heap.size W W') : OutC B A s W' := by
  intro j hj
  obtain ⟨q, y, e, h1, h2, h3⟩ := h j hj
  have hlt := World.block_lt_of_cell? _ _ h2
  exact ⟨q, y, e, h1, (hb.cell (p := ⟨q, j, none⟩) hlt).trans h2, (hb.frozen (p := ⟨q, j, none⟩) hlt).trans h3⟩
theorem OutC.set {B s q : Nat} {W : World} (h : OutC B (some ⟨q, 0, none⟩) s W) (i : Nat) (v : Value) : OutC B (some ⟨q, 0, none⟩) s (W.setCell ⟨q, i, none⟩ v) := by
  intro j hj
  obtain ⟨q', y, e, h1, h2, h3⟩ := h j hj
  cases e
  by_cases e2 : j = i
  · subst e2
    exact ⟨q, v, rfl, h1, World.cell?_setCell_same _ _ _ h2, by rw [World.frozen?_setCell]; exact h3⟩
  · exact ⟨q, y, rfl, h1, (World.cell?_setCell_other _ _ _ _ (by intro e; cases e; exact e2 rfl)).trans h2, by rw [World.frozen?_setCell]; exact h3⟩
theorem isL_int {W : World} {A : Option Addr} {n c : Nat} {l : List Int} (h : IsL W (.slice A n c) l) {j : Nat} (hj : j < l.length) : ∃ g, A = some ⟨g, 0, none⟩ ∧ W.cell? ⟨g, j, none⟩ = some (.int .i64 (dg l j)) := by
  obtain ⟨A', cap, e, _, hc⟩ := h
  cases e
  obtain ⟨g, e', hg⟩ := hc j hj
  refine ⟨g, e', ?_⟩
  rw [hg]
  simp [dg, List.getD, hj]

set_option maxHeartbeats 4000000 in
theorem tlaw_any {w : World} {A : Option Addr} {l : List Ed} {cap : Nat} (n a : Int) (hE : EdgesAt w A l) (hl : l.length ≤ maxLen) :
    Calls Try.prog 3 #[.int .i64 n, .slice A l.length cap, .int .i64 a] w fun e w' => e = .returned (.bool true) ∧ Below w.heap.size w w' := by
  have HE := Lib.hid hE
  have HLe := Lib.hid hl
  unfold maxLen at hl
  clear hE
  generalize hm : l.length = m at *
  have HM := Lib.hid hm
  clear hm
  by_cases h1 : 40 < n
  · have d1 : decide (40 < n) = true := decide_eq_true h1
    by_cases h2 : n ≤ 1024
    · have d2 : decide (n ≤ 1024) = true := decide_eq_true h2
      go_enter Try.func3, Try.ntmps3
      go_wp2
      go_ret
      exact ⟨rfl, Below.refl _ _⟩
    · have d2 : decide (n ≤ 1024) = false := decide_eq_false h2
      by_cases h3 : 300 < m
      · go_enter Try.func3, Try.ntmps3
        go_wp2
        go_ret
        exact ⟨rfl, Below.refl _ _⟩
      · have HN := Lib.hid (new_out w (n := n) (by omega))
        have HR := Lib.hid (rNew_out w (n := n) (by omega))
        go_enter Try.func3, Try.ntmps3
        go_wp2_with (first | (with_reducible refine HN.out.mono ?_; rintro e w' ⟨rfl, hw⟩; obtain rfl := hw.symm; clear hw) | (with_reducible refine HR.out.mono ?_; rintro e w' ⟨rfl, hw⟩; obtain rfl := hw.symm; clear hw))
        go_ret
        exact ⟨rfl, Below.refl _ _⟩
  have d1 : decide (40 < n) = false := decide_eq_false h1
  by_cases h3 : 300 < m
  · go_enter Try.func3, Try.ntmps3
    go_wp2
    go_ret
    exact ⟨rfl, Below.refl _ _⟩
  by_cases h0 : n < 0
  · have HN := Lib.hid (new_out w (n := n) (by omega))
    have HR := Lib.hid (rNew_out w (n := n) (by omega))
    go_enter Try.func3, Try.ntmps3
    go_wp2_with (first | (with_reducible refine HN.out.mono ?_; rintro e w' ⟨rfl, hw⟩; obtain rfl := hw.symm; clear hw) | (with_reducible refine HR.out.mono ?_; rintro e w' ⟨rfl, hw⟩; obtain rfl := hw.symm; clear hw))
    go_ret
    exact ⟨rfl, Below.refl _ _⟩
  obtain ⟨k, rfl⟩ := Int.eq_ofNat_of_zero_le (show 0 ≤ n by omega)
  have hk : k ≤ 40 := by omega
  have HN := Lib.hid (new_any w (n := k) (by omega))
  clear h1 h0 d1
  go_enter Try.func3, Try.ntmps3
  go_wp2_with (go_at_call 6; fail)
  refine HN.out.mono ?_
  rintro e w1 ⟨b, rfl, S, hg, hS, hb1⟩
  have HG1 : Hid (GAt w1 b (none_ k) S ∧ (∀ j, S j → w.heap.size ≤ j) ∧ Below w.heap.size w w1) := ⟨hg, hS, hb1⟩
  clear hg hS hb1 HN
  have HR := Lib.hid (rNew_any w1 (n := k) (by omega))
  go_wp2_with (go_at_call 7; fail)
  refine HR.out.mono ?_
  rintro e w2 ⟨r, Z, rfl, hr, hZ, hb2⟩
  have HT : Hid (∃ E R, TI w b r k E R w2 ∧ Says E R) := by
    obtain ⟨g1, g2, g3⟩ := HG1.out
    have hlen : (none_ k).length = k := by simp [none_]
    refine ⟨noE, none_ k, ⟨⟨S, Z, g1.below hb2 (Nat.le_refl _), hr, fun j h1 h2 => ?_, g2, fun j hj => Nat.le_trans g3.size (hZ j hj)⟩, none_ok (by omega), hlen, g3.trans (hb2.mono g3.size)⟩, fun u v _ _ => ?_⟩
    · have := g1.lt j h1; have := hZ j h2; omega
    · rw [row_none]; simp [noE]
  clear hr hZ hb2 HG1 HR
  go_wp2
  go_loopw [53] (fun u wr => ∃ i : Nat, i ≤ m ∧ u = .int .i64 (i : Int) ∧ ∃ E R, TI w b r k E R wr ∧ Says E R) (fun u _ => m - (intOf u).toNat)
  case atStart => exact ⟨0, Nat.zero_le _, rfl, HT.out⟩
  case round =>
    obtain ⟨i, hi, rfl, E, R, ht, hs⟩ := hrel
    clear HT
    by_cases hlt : i < m
    · have hil : i < l.length := by rw [HM.out]; exact hlt
      obtain ⟨a0, rfl, _, _, _⟩ := HE.out i hil
      have HC : Hid (∀ W, Below w.heap.size w W → W.cell? (a0.add (i * 2)) = some (.int .i64 (ed l i).1) ∧ W.cell? ⟨(a0.add (i * 2)).block, (a0.add (i * 2)).off + 1, none⟩ = some (.int .i64 (ed l i).2)) := fun W hW => by
        obtain ⟨a', e, _, f0, f1⟩ := (HE.out.below hW (Nat.le_refl _)) i hil
        cases e
        exact ⟨f0, f1⟩
      generalize ed l i = x at *
      obtain ⟨x1, x2⟩ := x
      simp only at HC
      obtain ⟨z, hb, R', E', hs', ha, hra, hh, hrh⟩ := tl_more (ht.still (Kept.refl _ wr).drew) hs (by omega) x1 x2
      have HS' := Lib.hid hs'
      have HA := Lib.hid ha
      have HRA := Lib.hid hra
      have HH := Lib.hid hh
      have HRH := Lib.hid hrh
      have hC0 := HC.out _ (ht.still (Kept.refl _ wr).drew).lo
      have k0 : (0 : Int) ≤ (i : Int) := by omega
      have k1 : (i : Int) < (m : Int) := by omega
      clear hs' ha hra hh hrh ht hs hil
      go_wp2
      go_region_held3 (fun W => W.cell? (a0.add (i * 2)) = some (.int .i64 x1) ∧ W.cell? ⟨(a0.add (i * 2)).block, (a0.add (i * 2)).off + 1, none⟩ = some (.int .i64 x2)) (first | exact hC0 | exact hC1) (first
        | (go_at_call 8; with_reducible refine HA.out.mono ?_; rintro e w3 ⟨rfl, hT1⟩; have hC1 := HC.out _ hT1.lo))
      have HT1 := Lib.hid (hT1.still (Kept.refl _ w3).drew)
      have hC2 := HC.out _ HT1.out.lo
      clear hC0 hC1 hT1
      go_wp2
      go_region_held3 (fun W => W.cell? (a0.add (i * 2)) = some (.int .i64 x1) ∧ W.cell? ⟨(a0.add (i * 2)).block, (a0.add (i * 2)).off + 1, none⟩ = some (.int .i64 x2)) (first | exact hC2 | exact hC3 | exact hC4 | exact hC5) (first
        | (go_at_call 9; with_reducible refine (HRA.out _ HT1.out).mono ?_; rintro e w4 ⟨rfl, hT2⟩; have hC3 := HC.out _ hT2.lo)
        | (go_at_call 10; with_reducible refine (HH.out _ hT2).mono ?_; rintro e w5 ⟨rfl, hT3⟩; have hC4 := HC.out _ hT3.lo)
        | (go_at_call 11; with_reducible refine (HRH.out _ hT3).mono ?_; rintro e w6 ⟨rfl, hT4⟩; have hC5 := HC.out _ hT4.lo))
      have HT4 : Hid (∃ E R, TI w b r k E R w6 ∧ Says E R) := ⟨_, _, hT4, HS'.out⟩
      clear hC2 hC3 hC4 hC5 hT2 hT3 hT4
      go_wp2
      go_roundw
      case rel => exact ⟨i + 1, by omega, by go_num, HT4.out⟩
      case measure => simp [intOf]; omega
    · have him : i = m := by omega
      rename World => wa
      have HTI := Lib.hid ht
      have HSa := Lib.hid hs
      have HO := Lib.hid ht.ok
      have HK := Lib.hid ht.len
      have HOut : Hid (Calls Try.prog 12 #[.pointer (some ⟨b, 0, none⟩), .int .i64 a] wa (NewR wa (outZ R a))) := by
        obtain ⟨⟨S, Z, g1, _⟩, _⟩ := ht
        exact outI_any g1 HO.out a
      have HOut2 : Hid (∀ W, Below wa.heap.size wa W → Calls Try.prog 12 #[.pointer (some ⟨b, 0, none⟩), .int .i64 a] W (TellL W (ints (outZ R a)))) := fun W hW => by
        obtain ⟨⟨S, Z, g1, _⟩, _⟩ := ht.below hW
        refine (outI_any g1 HO.out a).mono ?_
        rintro e w' hq
        obtain ⟨v, rfl⟩ : ∃ v, e = .returned v := by obtain ⟨g, e, _⟩ := hq; exact ⟨_, e⟩
        obtain ⟨h1, h2⟩ := NewR.isL hq
        exact ⟨v, rfl, h1, h2⟩
      have HDi : Hid (∀ W, Below wa.heap.size wa W → Calls Try.prog 13 #[.pointer (some ⟨b, 0, none⟩), .int .i64 a] W (TellL W (distZ R a))) := fun W hW => by
        obtain ⟨⟨S, Z, g1, _⟩, _⟩ := ht.below hW
        exact distI_any g1 HO.out a
      have HRe : Hid (∀ W, Below wa.heap.size wa W → Calls Try.prog 17 #[.pointer (some ⟨b, 0, none⟩), .int .i64 a] W (TellL W (ints (reachZ R a)))) := fun W hW => by
        obtain ⟨⟨S, Z, g1, _⟩, _⟩ := ht.below hW
        exact reachI_any g1 HO.out a
      have HLn : Hid (∀ W, Below wa.heap.size wa W → Calls Try.prog 18 #[.pointer (some ⟨b, 0, none⟩)] W fun e w' => e = .returned (.int .i64 (k : Int)) ∧ w' = W) := fun W hW => by
        obtain ⟨⟨S, Z, g1, _⟩, _, hl, _⟩ := ht.below hW
        have := len_any g1
        rw [hl] at this
        exact this
      have HSt : Hid (∀ W, Below wa.heap.size wa W → Calls Try.prog 19 #[.pointer (some ⟨b, 0, none⟩)] W (TellL W (ints (strF R)))) := fun W hW => by
        obtain ⟨⟨S, Z, g1, _⟩, _⟩ := ht.below hW
        refine (strong_any g1 HO.out).mono ?_
        rintro e w' hq
        obtain ⟨v, rfl⟩ : ∃ v, e = .returned v := by obtain ⟨g, e, _⟩ := hq; exact ⟨_, e⟩
        obtain ⟨h1, h2⟩ := NewR.isL hq
        exact ⟨v, rfl, h1, h2⟩
      have HJo : Hid (∀ W, Below wa.heap.size wa W → Calls Try.prog 20 #[.pointer (some ⟨b, 0, none⟩)] W (TellL W (ints (joiF R)))) := fun W hW => by
        obtain ⟨⟨S, Z, g1, _⟩, _⟩ := ht.below hW
        refine (joints_any g1 HO.out).mono ?_
        rintro e w' hq
        obtain ⟨v, rfl⟩ : ∃ v, e = .returned v := by obtain ⟨g, e, _⟩ := hq; exact ⟨_, e⟩
        obtain ⟨h1, h2⟩ := NewR.isL hq
        exact ⟨v, rfl, h1, h2⟩
      have hRA : ∀ W, Below wa.heap.size wa W → ∃ Z, RAt W r R.length E Z := fun W hW => by
        obtain ⟨⟨S, Z, _, g2, _⟩, _, hl, _⟩ := ht.below hW
        exact ⟨Z, by rw [hl]; exact g2⟩
      have HWa : Hid (∀ W, Below wa.heap.size wa W → Calls Try.prog 14 #[.pointer (some ⟨r, 0, none⟩), .int .i64 a, .bool false, .int .i64 (-1)] W (TellL W (distZ R a))) := fun W hW => by
        obtain ⟨Z, g⟩ := hRA W hW
        exact rDistI_any g HO.out HSa.out a
      have HRO : Hid (∀ W, Below wa.heap.size wa W → Calls Try.prog 16 #[.pointer (some ⟨r, 0, none⟩), .int .i64 a] W (TellL W (ints (outZ R a)))) := fun W hW => by
        obtain ⟨Z, g⟩ := hRA W hW
        exact rOutI_any g HO.out HSa.out a
      have HRS : Hid (∀ W, Below wa.heap.size wa W → Calls Try.prog 21 #[.pointer (some ⟨r, 0, none⟩)] W (TellL W (ints (strF R)))) := fun W hW => by
        obtain ⟨Z, g⟩ := hRA W hW
        exact rStrongI_any g HO.out HSa.out
      have HRJ : Hid (∀ W, Below wa.heap.size wa W → Calls Try.prog 22 #[.pointer (some ⟨r, 0, none⟩)] W (TellL W (ints (joiF R)))) := fun W hW => by
        obtain ⟨Z, g⟩ := hRA W hW
        exact rJoints_any g HO.out HSa.out
      have HBa := Lib.hid ht.lo
      have HPos := Lib.hid (posK_all HO.out a)
      have HDl : Hid ((distZ R a).length ≤ k) := by show _ ≤ _; rw [← HK.out]; exact distZ_len HO.out a
      have HOl : Hid ((outZ R a).length ≤ k) := by show _ ≤ _; rw [← HK.out]; exact outZ_len HO.out a
      have HRl : Hid ((reachZ R a).length ≤ k) := by
        show _ ≤ _
        rw [← HPos.out]
        exact Nat.le_trans (posK_le _ _) HDl.out
      have HSl : Hid ((strF R).length = k) := by show _ = _; rw [str_len HO.out, HK.out]
      have HJl : Hid ((joiF R).length ≤ k) := by
        show _ ≤ _
        rw [← HK.out]
        exact rise_length (joi_rise HO.out) (fun x hx => ((mem_joi HO.out).1 hx).1)
      clear ht hs hRA HTI HSa
      generalize outZ R a = lo at *
      generalize distZ R a = D at *
      generalize reachZ R a = lr at *
      generalize strF R = ls at *
      generalize joiF R = lj at *
      clear HO HK
      go_wp2_with fail
      refine HOut.out.mono ?_
      rintro e w3 ⟨v3, rfl, hr3, hf3, hb3⟩
      have hil3 := hr3.isL
      obtain ⟨A3, c3, rfl, _, _, _, hc3⟩ := hr3.form
      have HIO := Lib.hid hil3
      have HB3 := Lib.hid hb3
      have HOC : Hid (OutC wa.heap.size A3 lo.length w3) := fun j hj => by
        obtain ⟨g, e, h1, h2⟩ := hc3 j hj
        exact ⟨g, _, e, hf3 g (by rw [e]; rfl), h1, h2⟩
      clear hr3 hf3 hb3 hil3 hc3 HOut
      go_wp2_with fail
      refine (HDi.out _ HB3.out).mono ?_
      rintro e w4 ⟨v4, rfl, hl4, hb4⟩
      have HD4 := Lib.hid hl4
      have HB4 := Lib.hid (HB3.out.trans (hb4.mono HB3.out.size))
      have HIO4 := Lib.hid (HIO.out.below hb4 (Nat.le_refl _))
      have HOC4 := Lib.hid (HOC.out.below hb4)
      clear hl4 hb4 HB3 HIO HOC HDi
      go_wp2_with fail
      refine (HWa.out _ HB4.out).mono ?_
      rintro e w5 ⟨v5, rfl, hl5, hb5⟩
      have HW5 := Lib.hid hl5
      have HD5 := Lib.hid (HD4.out.below hb5 (Nat.le_refl _))
      have HB5 := Lib.hid (HB4.out.trans (hb5.mono HB4.out.size))
      have HIO5 := Lib.hid (HIO4.out.below hb5 (Nat.le_refl _))
      have HOC5 := Lib.hid (HOC4.out.below hb5)
      obtain ⟨A5, c5, rfl, _, _⟩ := hl5
      clear hb5 HB4 HIO4 HOC4 HWa HD4
      obtain ⟨i0, hi0, hz0, hz1, hz2⟩ := info_parts Try.infoInt
      obtain ⟨s5, hs5⟩ : ∃ s5, s5 = D.length := ⟨_, rfl⟩
      rw [← hs5] at HW5 HDl HPos ⊢
      have HS5 := Lib.hid hs5
      have hs5k := HDl.out
      clear hs5
      go_wp2
      go_loopw [16, 123] (fun tr u W => ∃ j : Nat, j ≤ s5 ∧ u = .int .i64 (j : Int) ∧ OwnL w5 tr (posK D j) W) (fun _ u _ => s5 - (intOf u).toNat)
      case atStart => exact ⟨0, Nat.zero_le _, rfl, World.ownsRow_nil _ _ _ _, Below.refl _ _⟩
      case round =>
        obtain ⟨j, hj, rfl, ho⟩ := hrel
        rename World => W
        have HW := Lib.hid ho
        have hle := posK_le D j
        clear ho
        by_cases hjl : j < s5
        · obtain ⟨g, rfl, fc⟩ := isL_int (HW5.out.below HW.out.2 (Nat.le_refl _)) (j := j) (by rw [← HS5.out]; exact hjl)
          have j0 : (0 : Int) ≤ (j : Int) := by omega
          have j1 : (j : Int) < (s5 : Int) := by omega
          by_cases hy : 0 ≤ dg D j
          · have hit := Lib.hid (posK_hit hy)
            generalize dg D j = y at *
            have d1 : decide (0 ≤ y) = true := decide_eq_true hy
            have hown := HW.out.1
            have hnew := World.news_of_block (heap_alloc_new W (.cells #[.int .i64 (j : Int)] 3))
            have HNEW : Hid (∀ z x, [ni j][z]? = some x → (W.alloc (.cells #[.int .i64 (j : Int)] 3)).cell? ((⟨W.heap.size, 0, none⟩ : Addr).add z) = some x) := by
              show ∀ z x, _
              simpa [ni] using hnew
            clear hnew
            go_wp2_with (at_builtin; refine wpList_append_own _ rfl _ _ 34 rfl w5.heap.size 3 i0 (.int .i64 0) 1 8 Try.underlying34 hi0 hz0 hz1 hz2 rfl (by decide) _ _ _ rfl (hown.alloc _) ⟨W.heap.size, 0, none⟩ 1 1 [ni j] rfl rfl HNEW.out (by intro u hu; simp at hu; subst hu; rfl) (by unfold maxLen; omega) (by omega) (by have := HW.out.2.size; simp; omega) ?_; intro v' w6 hown' hgrow _)
            have hnx1 : Below w5.heap.size w5 w6 := (HW.out.2.alloc HW.out.2.size _).grown hgrow (by simp; have := HW.out.2.size; omega) (fun z hz => (hown.lt z hz).1)
            have HQ : Hid (OwnL w5 v' (posK D (j + 1)) w6) := ⟨by rw [hit.out]; simpa [nis] using hown', hnx1⟩
            clear hgrow hown' hown hnx1 HW fc
            go_wp2
            go_roundw
            case rel => exact ⟨j + 1, by omega, by go_num, HQ.out⟩
            case measure => simp [intOf]; omega
          · have hit := Lib.hid (posK_miss hy)
            generalize dg D j = y at *
            have d1 : decide (0 ≤ y) = false := decide_eq_false hy
            go_wp2
            go_roundw
            case rel => exact ⟨j + 1, by omega, by go_num, by rw [hit.out]; exact HW.out⟩
            case measure => simp [intOf]; omega
        · obtain rfl : j = s5 := by omega
          have HR6 : Hid (IsL W u16 (ints lr)) := by
            have h1 := HW.out.1
            rw [HPos.out] at h1
            exact RowAt.isL (row_base h1 (Nat.zero_le _))
          have hbW := HW.out.2
          have HB6 := Lib.hid (HB5.out.trans (hbW.mono HB5.out.size))
          have HIO6 := Lib.hid (HIO5.out.below hbW (Nat.le_refl _))
          have HOC6 := Lib.hid (HOC5.out.below hbW)
          have HD6 := Lib.hid (HD5.out.below hbW (Nat.le_refl _))
          have HW6 := Lib.hid (HW5.out.below hbW (Nat.le_refl _))
          clear hbW HW HB5 HIO5 HOC5 HD5 HW5
          have hol := HOl.out
          have hrl := HRl.out
          have HlO : Hid ((ints lo).length ≤ 100000) := by show _ ≤ _; rw [ints_length]; omega
          have HlR : Hid ((ints lr).length ≤ 100000) := by show _ ≤ _; rw [ints_length]; omega
          have HlD : Hid (D.length ≤ 100000) := by show _ ≤ _; rw [← HS5.out]; omega
          have HlS : Hid ((ints ls).length ≤ 100000) := by show _ ≤ _; rw [ints_length, HSl.out]; omega
          have HlJ : Hid ((ints lj).length ≤ 100000) := by show _ ≤ _; rw [ints_length]; have := HJl.out; omega
          clear hol hrl
          go_wp2_with fail
          refine (HRO.out _ HB6.out).mono ?_
          rintro e w7 ⟨v7, rfl, hl7, hb7⟩
          have HS7 := Lib.hid (same_same (HIO6.out.below hb7 (Nat.le_refl _)) hl7 HlO.out)
          have HB7 := Lib.hid (HB6.out.trans (hb7.mono HB6.out.size))
          have HOC7 := Lib.hid (HOC6.out.below hb7)
          have HD7 := Lib.hid (HD6.out.below hb7 (Nat.le_refl _))
          have HW7 := Lib.hid (HW6.out.below hb7 (Nat.le_refl _))
          have HR7 := Lib.hid (HR6.out.below hb7 (Nat.le_refl _))
          clear hl7 hb7 HB6 HOC6 HD6 HW6 HR6 HIO6
          go_wp2_with fail
          refine HS7.out.mono ?_
          rintro e w8 ⟨rfl, hb8⟩
          have HS8 := Lib.hid (same_same (HD7.out.below hb8 (Nat.le_refl _)) (HW7.out.below hb8 (Nat.le_refl _)) HlD.out)
          have HB8 := Lib.hid (HB7.out.trans (hb8.mono HB7.out.size))
          have HOC8 := Lib.hid (HOC7.out.below hb8)
          have HR8 := Lib.hid (HR7.out.below hb8 (Nat.le_refl _))
          clear hb8 HB7 HOC7 HD7 HW7 HR7 HS7
          go_wp2_with fail
          refine HS8.out.mono ?_
          rintro e w9 ⟨rfl, hb9⟩
          have HB9 := Lib.hid (HB8.out.trans (hb9.mono HB8.out.size))
          have HOC9 := Lib.hid (HOC8.out.below hb9)
          have HR9 := Lib.hid (HR8.out.below hb9 (Nat.le_refl _))
          clear hb9 HB8 HOC8 HR8 HS8
          go_wp2_with fail
          refine (HRe.out _ HB9.out).mono ?_
          rintro e w10 ⟨v10, rfl, hl10, hb10⟩
          have HS10 := Lib.hid (same_same hl10 (HR9.out.below hb10 (Nat.le_refl _)) HlR.out)
          have HB10 := Lib.hid (HB9.out.trans (hb10.mono HB9.out.size))
          have HOC10 := Lib.hid (HOC9.out.below hb10)
          clear hl10 hb10 HB9 HOC9 HR9
          go_wp2_with fail
          refine HS10.out.mono ?_
          rintro e w11 ⟨rfl, hb11⟩
          have HB11 := Lib.hid (HB10.out.trans (hb11.mono HB10.out.size))
          have HOC11 := Lib.hid (HOC10.out.below hb11)
          clear hb11 HB10 HOC10 HS10
          go_wp2_with fail
          refine (HLn.out _ HB11.out).mono ?_
          rintro e w12 ⟨rfl, hw⟩
          obtain rfl := hw.symm
          clear hw
          obtain ⟨s3, hs3⟩ : ∃ s3, s3 = lo.length := ⟨_, rfl⟩
          have hol := HOl.out
          rw [← hs3] at HOC11 hol ⊢
          have HS3 := Lib.hid hs3
          clear hs3
          go_wp2
          go_loopw [164] (fun u W2 => ∃ j : Nat, j ≤ s3 ∧ u = .int .i64 (j : Int) ∧ OutC wa.heap.size A3 s3 W2 ∧ Below wa.heap.size wa W2) (fun u _ => s3 - (intOf u).toNat)
          case atStart => exact ⟨0, Nat.zero_le _, rfl, HOC11.out, HB11.out⟩
          case round =>
            obtain ⟨j, hj, rfl, hoc, hbb⟩ := hrel
            rename World => W2
            clear HOC11 HB11
            by_cases hjl : j < s3
            · obtain ⟨q, y, rfl, hq, fc, fz⟩ := hoc j hjl
              have HQ : Hid (OutC wa.heap.size (some ⟨q, 0, none⟩) s3 (W2.setCell ⟨q, j, none⟩ (.int .i64 (-1))) ∧ Below wa.heap.size wa (W2.setCell ⟨q, j, none⟩ (.int .i64 (-1)))) := ⟨hoc.set j _, hbb.setCell hq _⟩
              have j0 : (0 : Int) ≤ (j : Int) := by omega
              have j1 : (j : Int) < (s3 : Int) := by omega
              clear hoc hbb
              go_wp2
              go_roundw
              case rel => exact ⟨j + 1, by omega, by go_num, HQ.out.1, HQ.out.2⟩
              case measure => simp [intOf]; omega
            · have HBb := Lib.hid hbb
              clear hoc hbb
              go_wp2_with fail
              refine (HSt.out _ HBb.out).mono ?_
              rintro e w13 ⟨v13, rfl, hl13, hb13⟩
              have HL13 := Lib.hid hl13
              have HB13 := Lib.hid (HBb.out.trans (hb13.mono HBb.out.size))
              clear hl13 hb13 HBb
              go_wp2_with fail
              refine (HJo.out _ HB13.out).mono ?_
              rintro e w14 ⟨v14, rfl, hl14, hb14⟩
              have HL14 := Lib.hid hl14
              have HL13b := Lib.hid (HL13.out.below hb14 (Nat.le_refl _))
              have HB14 := Lib.hid (HB13.out.trans (hb14.mono HB13.out.size))
              clear hl14 hb14 HB13 HL13
              go_wp2_with fail
              refine (HRS.out _ HB14.out).mono ?_
              rintro e w15 ⟨v15, rfl, hl15, hb15⟩
              have HS15 := Lib.hid (same_same (HL13b.out.below hb15 (Nat.le_refl _)) hl15 HlS.out)
              have HL15 := Lib.hid (HL14.out.below hb15 (Nat.le_refl _))
              have HB15 := Lib.hid (HB14.out.trans (hb15.mono HB14.out.size))
              clear hl15 hb15 HB14 HL14 HL13b
              go_wp2_with fail
              refine HS15.out.mono ?_
              rintro e w16 ⟨rfl, hb16⟩
              have HL16 := Lib.hid (HL15.out.below hb16 (Nat.le_refl _))
              have HB16 := Lib.hid (HB15.out.trans (hb16.mono HB15.out.size))
              clear hb16 HB15 HL15 HS15
              go_wp2_with fail
              refine (HRJ.out _ HB16.out).mono ?_
              rintro e w17 ⟨v17, rfl, hl17, hb17⟩
              have HS17 := Lib.hid (same_same (HL16.out.below hb17 (Nat.le_refl _)) hl17 HlJ.out)
              have HB17 := Lib.hid (HB16.out.trans (hb17.mono HB16.out.size))
              clear hl17 hb17 HB16 HL16
              go_wp2_with fail
              refine HS17.out.mono ?_
              rintro e w18 ⟨rfl, hb18⟩
              have HB18 := Lib.hid (HB17.out.trans (hb18.mono HB17.out.size))
              clear hb18 HB17 HS17
              go_wp2_with fail
              refine (HOut2.out _ HB18.out).mono ?_
              rintro e w19 ⟨v19, rfl, hl19, hb19⟩
              have HL19 := Lib.hid hl19
              have HB19 := Lib.hid (HB18.out.trans (hb19.mono HB18.out.size))
              clear hl19 hb19 HB18
              go_wp2_with fail
              refine (HRO.out _ HB19.out).mono ?_
              rintro e w20 ⟨v20, rfl, hl20, hb20⟩
              have HS20 := Lib.hid (same_same (HL19.out.below hb20 (Nat.le_refl _)) hl20 HlO.out)
              have HB20 := Lib.hid (HB19.out.trans (hb20.mono HB19.out.size))
              clear hl20 hb20 HB19 HL19
              go_wp2_with fail
              refine HS20.out.mono ?_
              rintro e w21 ⟨rfl, hb21⟩
              have HQ : Hid (Below w.heap.size w w21) := HBa.out.trans ((HB20.out.trans (hb21.mono HB20.out.size)).mono HBa.out.size)
              clear hb21 HB20 HS20
              go_wp2
              go_ret
              exact ⟨rfl, HQ.out⟩
end Go.Proofs.Ytlcadkhhpnaofaa
