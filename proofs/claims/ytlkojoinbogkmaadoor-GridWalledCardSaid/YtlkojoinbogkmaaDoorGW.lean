/-
  The walk of the law GridWalled, at a map.
-/
import Derived.Test.YtlkojoinbogkmaaDoorGW0
namespace Go.Proofs.YtlkojoinbogkmaaDoor
set_option maxRecDepth 100000
set_option linter.unusedSimpArgs false
open Go.RowKit

theorem nextZ_at {R C k : Nat} {ms : List UInt8} (hk : k < ms.length) : nextZ R C ms (k : Int) = outs R C ms k := by unfold nextZ; rw [if_pos (by omega)]; rfl
theorem nextZ_above {R C k : Nat} {ms : List UInt8} (hC : 1 ≤ C) (hN : R * C = ms.length) (hk : k < ms.length) : nextZ (R + 1) C (Pure.wallRow C ++ ms) ((C + k : Nat) : Int) = (outs R C ms k).map (C + ·) := by
  rw [nextZ_at (by simp [Pure.wallRow]; omega), outs_above hC hN k]
theorem nextZ_below {R C k : Nat} {ms : List UInt8} (hC : 1 ≤ C) (hN : R * C = ms.length) (hk : k < ms.length) : nextZ (R + 1) C (ms ++ Pure.wallRow C) (k : Int) = outs R C ms k := by
  rw [nextZ_at (by simp [Pure.wallRow]; omega), outs_below hC hN hk]
theorem kind_above {C k : Nat} {ms : List UInt8} (hk : k < ms.length) : kindB (Pure.wallRow C ++ ms) ((C + k : Nat) : Int) = kindB ms (k : Int) := by
  have hlen : (Pure.wallRow C).length = C := by simp [Pure.wallRow]
  have h := getD_high (ms := Pure.wallRow C) (us := ms) k
  rw [hlen] at h
  unfold kindB
  rw [if_pos (by simp only [List.length_append, hlen]; omega), if_pos (by omega), Int.toNat_natCast, Int.toNat_natCast]
  exact h

set_option maxHeartbeats 4000000 in
theorem walled_good (s : ByteArray) (w : World) (hw : Ways w) (h : s.size ≤ 500) {L : List (List UInt8)} (hv : Pure.verdict s.data.toList = .good L) (hr : L.length < 31) :
    Calls Tryd.prog 6 #[.string s] w fun e w' => e = .returned (.bool true) ∧ Below w.heap.size w w' := by
  have hgt := Pure.good_of hv
  have HA : Hid (Calls Tryd.prog 20 #[] w fun e w' => e = .returned (.bool true) ∧ Below w.heap.size w w') := alive_any w hw
  have HP : Hid (∀ w, Calls Tryd.prog 7 #[.string s] w fun e w' => ∃ b g cap, e = .returned (.tuple #[.pointer (some ⟨b, 0, none⟩), .int .i64 0, .int .i64 0, .int .i64 0]) ∧ (MapAt w' b g cap L ∧ Below w.heap.size w w' ∧ w.heap.size ≤ b)) := fun w => parse_good hgt.1 s hgt.2.symm w
  have HPa : Hid (∀ (q : ByteArray) w, q.data.toList = Pure.wallRow (Pure.wid L) → Calls Tryd.prog 7 #[.string (s ++ q ++ ⟨#[10]⟩)] w fun e w' => ∃ b g cap, e = .returned (.tuple #[.pointer (some ⟨b, 0, none⟩), .int .i64 0, .int .i64 0, .int .i64 0]) ∧ (MapAt w' b g cap (L ++ [Pure.wallRow (Pure.wid L)]) ∧ Below w.heap.size w w' ∧ w.heap.size ≤ b)) :=
    fun q w hq => parse_good (Pure.good_below hgt.1 (by omega)) _ (walled_below L q s hgt.2.symm hq) w
  have HPb : Hid (∀ (q : ByteArray) w, q.data.toList = Pure.wallRow (Pure.wid L) → Calls Tryd.prog 7 #[.string (q ++ ⟨#[10]⟩ ++ s)] w fun e w' => ∃ b g cap, e = .returned (.tuple #[.pointer (some ⟨b, 0, none⟩), .int .i64 0, .int .i64 0, .int .i64 0]) ∧ (MapAt w' b g cap (Pure.wallRow (Pure.wid L) :: L) ∧ Below w.heap.size w w' ∧ w.heap.size ≤ b)) :=
    fun q w hq => parse_good (Pure.good_above hgt.1 (by omega)) _ (walled_above L q s hgt.2.symm hq) w
  have HW : Hid (Ways w ∧ Pure.Good L) := ⟨hw, hgt.1⟩
  have hri : ¬ ((31 : Int) ≤ (L.length : Int)) := by omega
  have hC32 := hgt.1.hi
  clear hv hw hgt
  go_enter Tryd.func6, Tryd.ntmps6
  go_wp2_with (first
    | (go_at_call 20; (with_reducible refine HA.out.mono ?_); rintro e w1 ⟨rfl, hb⟩; have H1 : Hid (Below w.heap.size w w1) := hb; clear hb)
    | (go_at_call 7; (with_reducible refine (HP.out _).mono ?_); rintro e w2 ⟨bm, gm, cm, rfl, hm⟩; have H2 : Hid (MapAt w2 bm gm cm L ∧ Below w1.heap.size w1 w2 ∧ w1.heap.size ≤ bm) := hm; clear hm)
    | (go_at_call 25; refine (rows_any bm (L.length : Int) w2 (by rw [blk_cell H2.out.1.blk]; rfl)).mono ?_; rintro e w' ⟨rfl, rfl⟩))
  obtain ⟨C, hC⟩ : ∃ C, Pure.wid L = C := ⟨_, rfl⟩
  have hcc : w2.cell? ⟨bm, 1, none⟩ = some (.int .i64 (C : Int)) := by rw [blk_cell H2.out.1.blk, ← hC]; rfl
  rw [hC] at hC32 HPa HPb
  go_loop [8, 9] (fun q c => ∃ (k : Nat) (x : ByteArray), k ≤ C ∧ c = .int .i64 k ∧ q = .string x ∧ x.data.toList = List.replicate k 35) (fun _ c => C - (intOf c).toNat)
  case atStart => exact ⟨0, _, Nat.zero_le _, rfl, rfl, rfl⟩
  case round =>
    obtain ⟨k, x, hk, rfl, rfl, hx⟩ := hrel
    have HX : Hid (x.data.toList = List.replicate k 35) := hx
    have hxs : x.size ≤ 32 := by
      have h1 : x.size = x.data.toList.length := by simp
      rw [h1, hx]; simp; omega
    have hsa : (s ++ x).size = s.size + x.size := by simp
    have hsb : ∀ t : ByteArray, t.data = #[10] → (x ++ t).size = x.size + 1 := fun t ht => by rw [ByteArray.size_append]; congr 1; show t.data.size = 1; rw [ht]; rfl
    have hsc := hsb ⟨#[10]⟩ rfl
    clear hx hsb
    by_cases hlt : k < C
    · have hki : (k : Int) < (C : Int) := by omega
      go_wp2_with (go_at_call 26; refine (cols_any bm _ w2 hcc).mono ?_; rintro e w' ⟨rfl, rfl⟩)
      go_round
      case rel => exact ⟨k + 1, _, by omega, by go_num, rfl, by have h5 := HX.out; simp [h5, List.replicate_succ']⟩
      case measure => simp [intOf]; omega
    · obtain rfl : C = k := by omega
      have hq : Hid (x.data.toList = Pure.wallRow C) := HX.out
      go_wp2_with (first
        | (go_at_call 26; refine (cols_any bm _ w2 hcc).mono ?_; rintro e w' ⟨rfl, rfl⟩)
        | (go_at_call 7; (with_reducible refine (HPa.out x w2 hq.out).mono ?_); rintro e w3 ⟨ba, ga, ca, rfl, hm⟩; have H3 : Hid (MapAt w3 ba ga ca (L ++ [Pure.wallRow C]) ∧ Below w2.heap.size w2 w3 ∧ w2.heap.size ≤ ba) := hm; clear hm)
        | (go_at_call 7; (with_reducible refine (HPb.out x w3 hq.out).mono ?_); rintro e w4 ⟨bb, gb, cb, rfl, hm⟩; have H4 : Hid (MapAt w4 bb gb cb (Pure.wallRow C :: L) ∧ Below w3.heap.size w3 w4 ∧ w3.heap.size ≤ bb) := hm; clear hm))
      obtain ⟨R, hR⟩ : ∃ R, L.length = R := ⟨_, rfl⟩
      obtain ⟨ms, hms⟩ : ∃ ms, L.flatten = ms := ⟨_, rfl⟩
      obtain ⟨F, hF⟩ : ∃ F, w4.heap.size = F := ⟨_, rfl⟩
      have HM : Hid (Many w F [⟨bm, gm, cm, R, C, ms⟩, ⟨ba, ga, ca, R + 1, C, ms ++ Pure.wallRow C⟩, ⟨bb, gb, cb, R + 1, C, Pure.wallRow C ++ ms⟩] w4) := by
        have h1 := H1.out
        obtain ⟨m1, m2, m3⟩ := H2.out
        have h3 := H3.out
        have h4 := H4.out
        have hz := h1.size
        rw [← hC] at h3 h4
        have := many_start HW.out.1 HW.out.2 hr ⟨m1, h1.trans (m2.mono h1.size), by omega⟩ h3 h4
        rw [hC, hR, hms, hF] at this
        exact this
      have hC1 : 1 ≤ C := by rw [← hC]; exact HW.out.2.lo
      have hN : R * C = ms.length := by rw [← hR, ← hC, ← hms]; exact HW.out.2.size.symm
      have hNs : ms.length ≤ 1024 := by rw [← hms]; exact HW.out.2.small
      have hpos : 0 < ms.length := by
        rw [← hms, HW.out.2.size]
        exact Nat.mul_pos (List.length_pos_iff.2 HW.out.2.ne) HW.out.2.lo
      have hwl : (Pure.wallRow C).length = C := by simp [Pure.wallRow]
      clear HA HP HPa HPb HW H1 H2 H3 H4 hR hC hms hF hcc HX hq
      have HEm : Hid (∀ W, Many w F [⟨bm, gm, cm, R, C, ms⟩, ⟨ba, ga, ca, R + 1, C, ms ++ Pure.wallRow C⟩, ⟨bb, gb, cb, R + 1, C, Pure.wallRow C ++ ms⟩] W → Calls Tryd.prog 19 #[.pointer (some ⟨bm, 0, none⟩)] W fun e w' => e = .returned (.int .i64 (eds R C ms ms.length : Int)) ∧ Many w F [⟨bm, gm, cm, R, C, ms⟩, ⟨ba, ga, ca, R + 1, C, ms ++ Pure.wallRow C⟩, ⟨bb, gb, cb, R + 1, C, Pure.wallRow C ++ ms⟩] w') := fun W hW => (n_edges (p := ⟨bm, gm, cm, R, C, ms⟩) (by simp) hW).mono fun e w' h => ⟨h.1, h.2.1⟩
      have HEa : Hid (∀ W, Many w F [⟨bm, gm, cm, R, C, ms⟩, ⟨ba, ga, ca, R + 1, C, ms ++ Pure.wallRow C⟩, ⟨bb, gb, cb, R + 1, C, Pure.wallRow C ++ ms⟩] W → Calls Tryd.prog 19 #[.pointer (some ⟨ba, 0, none⟩)] W fun e w' => e = .returned (.int .i64 (eds R C ms ms.length : Int)) ∧ Many w F [⟨bm, gm, cm, R, C, ms⟩, ⟨ba, ga, ca, R + 1, C, ms ++ Pure.wallRow C⟩, ⟨bb, gb, cb, R + 1, C, Pure.wallRow C ++ ms⟩] w') := by
        intro W hW
        have h5 := n_edges (p := ⟨ba, ga, ca, R + 1, C, ms ++ Pure.wallRow C⟩) (by simp) hW
        dsimp only at h5
        rw [List.length_append, hwl, eds_below_wall hC1 hN C (Nat.le_refl _)] at h5
        exact h5.mono fun e w' h => ⟨h.1, h.2.1⟩
      have HEb : Hid (∀ W, Many w F [⟨bm, gm, cm, R, C, ms⟩, ⟨ba, ga, ca, R + 1, C, ms ++ Pure.wallRow C⟩, ⟨bb, gb, cb, R + 1, C, Pure.wallRow C ++ ms⟩] W → Calls Tryd.prog 19 #[.pointer (some ⟨bb, 0, none⟩)] W fun e w' => e = .returned (.int .i64 (eds R C ms ms.length : Int)) ∧ Many w F [⟨bm, gm, cm, R, C, ms⟩, ⟨ba, ga, ca, R + 1, C, ms ++ Pure.wallRow C⟩, ⟨bb, gb, cb, R + 1, C, Pure.wallRow C ++ ms⟩] w') := by
        intro W hW
        have h5 := n_edges (p := ⟨bb, gb, cb, R + 1, C, Pure.wallRow C ++ ms⟩) (by simp) hW
        dsimp only at h5
        rw [List.length_append, hwl, eds_above hC1 hN _ (Nat.le_refl _)] at h5
        exact h5.mono fun e w' h => ⟨h.1, h.2.1⟩
      have HAa : Hid (∀ W, Many w F [⟨bm, gm, cm, R, C, ms⟩, ⟨ba, ga, ca, R + 1, C, ms ++ Pure.wallRow C⟩, ⟨bb, gb, cb, R + 1, C, Pure.wallRow C ++ ms⟩] W → Calls Tryd.prog 27 #[.pointer (some ⟨ba, 0, none⟩)] W fun e w' => ∃ v, e = .returned v ∧ (Many w F [⟨bm, gm, cm, R, C, ms⟩, ⟨ba, ga, ca, R + 1, C, ms ++ Pure.wallRow C⟩, ⟨bb, gb, cb, R + 1, C, Pure.wallRow C ++ ms⟩] w' ∧ LstF F w' v (frees ms))) := by
        intro W hW
        have h5 := n_all (p := ⟨ba, ga, ca, R + 1, C, ms ++ Pure.wallRow C⟩) (by simp) hW (by simp; omega)
        dsimp only at h5
        rw [frees_below] at h5
        exact h5.mono fun e w' ⟨v, h1, h2, _, h4⟩ => ⟨v, h1, h2, h4⟩
      have HAm : Hid (∀ W u l, Many w F [⟨bm, gm, cm, R, C, ms⟩, ⟨ba, ga, ca, R + 1, C, ms ++ Pure.wallRow C⟩, ⟨bb, gb, cb, R + 1, C, Pure.wallRow C ++ ms⟩] W → LstF F W u l → Calls Tryd.prog 27 #[.pointer (some ⟨bm, 0, none⟩)] W fun e w' => ∃ v, e = .returned v ∧ (Many w F [⟨bm, gm, cm, R, C, ms⟩, ⟨ba, ga, ca, R + 1, C, ms ++ Pure.wallRow C⟩, ⟨bb, gb, cb, R + 1, C, Pure.wallRow C ++ ms⟩] w' ∧ LstF F w' v (frees ms) ∧ LstF F w' u l)) :=
        fun W u l hW hl => (n_all (p := ⟨bm, gm, cm, R, C, ms⟩) (by simp) hW hpos).mono fun e w' ⟨v, h1, h2, h3, h4⟩ => ⟨v, h1, h2, h4, hl.turns h3⟩
      have hfl : (frees ms).length ≤ 100000 := Nat.le_trans (freeK_le ms _) (by omega)
      have HSf : Hid (∀ W u v, Many w F [⟨bm, gm, cm, R, C, ms⟩, ⟨ba, ga, ca, R + 1, C, ms ++ Pure.wallRow C⟩, ⟨bb, gb, cb, R + 1, C, Pure.wallRow C ++ ms⟩] W → LstF F W u (frees ms) → LstF F W v (frees ms) → Calls Tryd.prog 11 #[u, v] W fun e w' => e = .returned (.bool true) ∧ Many w F [⟨bm, gm, cm, R, C, ms⟩, ⟨ba, ga, ca, R + 1, C, ms ++ Pure.wallRow C⟩, ⟨bb, gb, cb, R + 1, C, Pure.wallRow C ++ ms⟩] w') := fun W u v hW h1 h2 => (n_same hW h1 h2 hfl).mono fun e w' h => ⟨h.1, h.2.1⟩
      clear hfl
      have HN : Hid (1 ≤ C ∧ R * C = ms.length) := ⟨hC1, hN⟩
      obtain ⟨N, hNe⟩ : ∃ N, ms.length = N := ⟨_, rfl⟩
      have HNe : Hid (ms.length = N) := hNe
      rw [hNe] at hNs
      have HCl : Hid (∀ W, Many w F [⟨bm, gm, cm, R, C, ms⟩, ⟨ba, ga, ca, R + 1, C, ms ++ Pure.wallRow C⟩, ⟨bb, gb, cb, R + 1, C, Pure.wallRow C ++ ms⟩] W → Calls Tryd.prog 22 #[.pointer (some ⟨bm, 0, none⟩)] W fun e w' => e = .returned (.int .i64 (N : Int)) ∧ W = w') := fun W hW => hNe ▸ n_cells (p := ⟨bm, gm, cm, R, C, ms⟩) (by simp) hW
      clear hNe hN hpos hC1 hwl
      generalize eds R C ms ms.length = E at HEm HEa HEb
      generalize frees ms = fr at HAa HAm HSf
      go_wp2_with (first
        | (go_at_call 19; (with_reducible refine (HEa.out w4 HM.out).mono ?_); rintro e w5 ⟨rfl, hm⟩; have H5 : Hid (Many w F [⟨bm, gm, cm, R, C, ms⟩, ⟨ba, ga, ca, R + 1, C, ms ++ Pure.wallRow C⟩, ⟨bb, gb, cb, R + 1, C, Pure.wallRow C ++ ms⟩] w5) := hm; clear hm)
        | (go_at_call 19; (with_reducible refine (HEm.out w5 H5.out).mono ?_); rintro e w6 ⟨rfl, hm⟩; have H6 : Hid (Many w F [⟨bm, gm, cm, R, C, ms⟩, ⟨ba, ga, ca, R + 1, C, ms ++ Pure.wallRow C⟩, ⟨bb, gb, cb, R + 1, C, Pure.wallRow C ++ ms⟩] w6) := hm; clear hm)
        | (go_at_call 19; (with_reducible refine (HEb.out w6 H6.out).mono ?_); rintro e w7 ⟨rfl, hm⟩; have H7 : Hid (Many w F [⟨bm, gm, cm, R, C, ms⟩, ⟨ba, ga, ca, R + 1, C, ms ++ Pure.wallRow C⟩, ⟨bb, gb, cb, R + 1, C, Pure.wallRow C ++ ms⟩] w7) := hm; clear hm)
        | (go_at_call 19; (with_reducible refine (HEm.out w7 H7.out).mono ?_); rintro e w8 ⟨rfl, hm⟩; have H8 : Hid (Many w F [⟨bm, gm, cm, R, C, ms⟩, ⟨ba, ga, ca, R + 1, C, ms ++ Pure.wallRow C⟩, ⟨bb, gb, cb, R + 1, C, Pure.wallRow C ++ ms⟩] w8) := hm; clear hm)
        | (go_at_call 27; (with_reducible refine (HAa.out w8 H8.out).mono ?_); rintro e w9 ⟨v1, rfl, hm⟩; have H9 : Hid (Many w F [⟨bm, gm, cm, R, C, ms⟩, ⟨ba, ga, ca, R + 1, C, ms ++ Pure.wallRow C⟩, ⟨bb, gb, cb, R + 1, C, Pure.wallRow C ++ ms⟩] w9 ∧ LstF F w9 v1 fr) := hm; clear hm)
        | (go_at_call 27; (with_reducible refine (HAm.out w9 v1 fr H9.out.1 H9.out.2).mono ?_); rintro e w10 ⟨v2, rfl, hm⟩; have H10 : Hid (Many w F [⟨bm, gm, cm, R, C, ms⟩, ⟨ba, ga, ca, R + 1, C, ms ++ Pure.wallRow C⟩, ⟨bb, gb, cb, R + 1, C, Pure.wallRow C ++ ms⟩] w10 ∧ LstF F w10 v2 fr ∧ LstF F w10 v1 fr) := hm; clear hm)
        | (go_at_call 11; (with_reducible refine (HSf.out w10 v1 v2 H10.out.1 H10.out.2.2 H10.out.2.1).mono ?_); rintro e w11 ⟨rfl, hm⟩; have H11 : Hid (Many w F [⟨bm, gm, cm, R, C, ms⟩, ⟨ba, ga, ca, R + 1, C, ms ++ Pure.wallRow C⟩, ⟨bb, gb, cb, R + 1, C, Pure.wallRow C ++ ms⟩] w11) := hm; clear hm))
      clear HM H5 H6 H7 H8 H9 H10 HEm HEa HEb HAa HAm HSf
      go_loopw [19] (fun i wr => ∃ k : Nat, k ≤ N ∧ i = .int .i64 k ∧ Many w F [⟨bm, gm, cm, R, C, ms⟩, ⟨ba, ga, ca, R + 1, C, ms ++ Pure.wallRow C⟩, ⟨bb, gb, cb, R + 1, C, Pure.wallRow C ++ ms⟩] wr) (fun i _ => N - (intOf i).toNat)
      case atStart => exact ⟨0, Nat.zero_le _, rfl, H11.out⟩
      case round =>
        obtain ⟨k, hk, rfl, hm⟩ := hrel
        have H0 : Hid (Many w F [⟨bm, gm, cm, R, C, ms⟩, ⟨ba, ga, ca, R + 1, C, ms ++ Pure.wallRow C⟩, ⟨bb, gb, cb, R + 1, C, Pure.wallRow C ++ ms⟩] wr) := hm
        clear hm H11
        by_cases hlt : k < N
        · have hkN : k < ms.length := by rw [HNe.out]; exact hlt
          have hlt2 : ∀ j, j < (outs R C ms k).length → (outs R C ms k).getD j 0 < N := by
            intro j hj
            have hg : (outs R C ms k).getD j 0 = (outs R C ms k)[j] := by simp [List.getD, hj]
            rw [hg, ← HNe.out, ← HN.out.2]
            exact outs_bd (List.getElem_mem hj)
          have hol := outs_len R C ms k
          have hml : ((outs R C ms k).map (C + ·)).length = (outs R C ms k).length := List.length_map _
          have hmg : ∀ j, j < (outs R C ms k).length → ((outs R C ms k).map (C + ·)).getD j 0 = C + (outs R C ms k).getD j 0 := by
            intro j hj
            simp [List.getD, hj]
          have HNm : Hid (∀ W, Many w F [⟨bm, gm, cm, R, C, ms⟩, ⟨ba, ga, ca, R + 1, C, ms ++ Pure.wallRow C⟩, ⟨bb, gb, cb, R + 1, C, Pure.wallRow C ++ ms⟩] W → Calls Tryd.prog 10 #[.pointer (some ⟨bm, 0, none⟩), .int .i64 (k : Int)] W fun e w' => ∃ a c, e = .returned (.slice a (outs R C ms k).length c) ∧ (Many w F [⟨bm, gm, cm, R, C, ms⟩, ⟨ba, ga, ca, R + 1, C, ms ++ Pure.wallRow C⟩, ⟨bb, gb, cb, R + 1, C, Pure.wallRow C ++ ms⟩] w' ∧ LstF F w' (.slice a (outs R C ms k).length c) (outs R C ms k))) := by
            intro W hW
            have h5 := n_next (p := ⟨bm, gm, cm, R, C, ms⟩) (by simp) (k : Int) hW
            dsimp only at h5
            rw [nextZ_at hkN] at h5
            exact h5.mono fun e w' ⟨a, c, h1, h2, _, h4⟩ => ⟨a, c, h1, h2, h4⟩
          have HNb : Hid (∀ W u l, Many w F [⟨bm, gm, cm, R, C, ms⟩, ⟨ba, ga, ca, R + 1, C, ms ++ Pure.wallRow C⟩, ⟨bb, gb, cb, R + 1, C, Pure.wallRow C ++ ms⟩] W → LstF F W u l → Calls Tryd.prog 10 #[.pointer (some ⟨bb, 0, none⟩), .int .i64 ((C + k : Nat) : Int)] W fun e w' => ∃ a c, e = .returned (.slice a (outs R C ms k).length c) ∧ (Many w F [⟨bm, gm, cm, R, C, ms⟩, ⟨ba, ga, ca, R + 1, C, ms ++ Pure.wallRow C⟩, ⟨bb, gb, cb, R + 1, C, Pure.wallRow C ++ ms⟩] w' ∧ LstF F w' u l ∧ LstF F w' (.slice a (outs R C ms k).length c) ((outs R C ms k).map (C + ·)))) := by
            intro W u l hW hl
            have h5 := n_next (p := ⟨bb, gb, cb, R + 1, C, Pure.wallRow C ++ ms⟩) (by simp) ((C + k : Nat) : Int) hW
            dsimp only at h5
            rw [nextZ_above HN.out.1 HN.out.2 hkN, hml] at h5
            exact h5.mono fun e w' ⟨a, c, h1, h2, h3, h4⟩ => ⟨a, c, h1, h2, hl.turns h3, h4⟩
          have HNa : Hid (∀ W u l v l2, Many w F [⟨bm, gm, cm, R, C, ms⟩, ⟨ba, ga, ca, R + 1, C, ms ++ Pure.wallRow C⟩, ⟨bb, gb, cb, R + 1, C, Pure.wallRow C ++ ms⟩] W → LstF F W u l → LstF F W v l2 → Calls Tryd.prog 10 #[.pointer (some ⟨ba, 0, none⟩), .int .i64 (k : Int)] W fun e w' => ∃ a c, e = .returned (.slice a (outs R C ms k).length c) ∧ (Many w F [⟨bm, gm, cm, R, C, ms⟩, ⟨ba, ga, ca, R + 1, C, ms ++ Pure.wallRow C⟩, ⟨bb, gb, cb, R + 1, C, Pure.wallRow C ++ ms⟩] w' ∧ LstF F w' u l ∧ LstF F w' v l2 ∧ LstF F w' (.slice a (outs R C ms k).length c) (outs R C ms k))) := by
            intro W u l v l2 hW hl hl2
            have h5 := n_next (p := ⟨ba, ga, ca, R + 1, C, ms ++ Pure.wallRow C⟩) (by simp) (k : Int) hW
            dsimp only at h5
            rw [nextZ_below HN.out.1 HN.out.2 hkN] at h5
            exact h5.mono fun e w' ⟨a, c, h1, h2, h3, h4⟩ => ⟨a, c, h1, h2, hl.turns h3, hl2.turns h3, h4⟩
          have HSm : Hid (∀ W u v y l2, Many w F [⟨bm, gm, cm, R, C, ms⟩, ⟨ba, ga, ca, R + 1, C, ms ++ Pure.wallRow C⟩, ⟨bb, gb, cb, R + 1, C, Pure.wallRow C ++ ms⟩] W → LstF F W u (outs R C ms k) → LstF F W v (outs R C ms k) → LstF F W y l2 → Calls Tryd.prog 11 #[u, v] W fun e w' => e = .returned (.bool true) ∧ (Many w F [⟨bm, gm, cm, R, C, ms⟩, ⟨ba, ga, ca, R + 1, C, ms ++ Pure.wallRow C⟩, ⟨bb, gb, cb, R + 1, C, Pure.wallRow C ++ ms⟩] w' ∧ LstF F w' v (outs R C ms k) ∧ LstF F w' y l2)) := fun W u v y l2 hW h1 h2 h3 => (n_same hW h1 h2 (by omega)).mono fun e w' h => ⟨h.1, h.2.1, h2.turns h.2.2, h3.turns h.2.2⟩
          have HKm : Hid (∀ W, Many w F [⟨bm, gm, cm, R, C, ms⟩, ⟨ba, ga, ca, R + 1, C, ms ++ Pure.wallRow C⟩, ⟨bb, gb, cb, R + 1, C, Pure.wallRow C ++ ms⟩] W → Calls Tryd.prog 24 #[.pointer (some ⟨bm, 0, none⟩), .int .i64 (k : Int)] W fun e w' => e = .returned (.int .u8 ((kindB ms k).toNat : Int)) ∧ W = w') := fun W hW => n_kind (p := ⟨bm, gm, cm, R, C, ms⟩) (by simp) _ hW
          have HKb : Hid (∀ W, Many w F [⟨bm, gm, cm, R, C, ms⟩, ⟨ba, ga, ca, R + 1, C, ms ++ Pure.wallRow C⟩, ⟨bb, gb, cb, R + 1, C, Pure.wallRow C ++ ms⟩] W → Calls Tryd.prog 24 #[.pointer (some ⟨bb, 0, none⟩), .int .i64 ((C + k : Nat) : Int)] W fun e w' => e = .returned (.int .u8 ((kindB ms k).toNat : Int)) ∧ W = w') := by
            intro W hW
            have h5 := n_kind (p := ⟨bb, gb, cb, R + 1, C, Pure.wallRow C ++ ms⟩) (by simp) ((C + k : Nat) : Int) hW
            dsimp only at h5
            rwa [kind_above hkN] at h5
          have hwkc : IntKind.i64.wrap ((k : Int) + (C : Int)) = ((C + k : Nat) : Int) := by rw [IntWalk.i64_in _ (by omega)]; omega
          have hwk1 : IntKind.i64.wrap ((k : Int) + 1) = ((k + 1 : Nat) : Int) := by rw [IntWalk.i64_in _ (by omega)]; omega
          have HWX : Hid (∀ x : Nat, x < N → IntKind.i64.wrap ((x : Int) + (C : Int)) = ((C + x : Nat) : Int)) := fun x hx => by rw [IntWalk.i64_in _ (by omega)]; omega
          generalize ((kindB ms k).toNat : Int) = kv at HKm HKb
          generalize ((C + k : Nat) : Int) = z at HNb HKb hwkc
          generalize hl2 : (outs R C ms k).map (C + ·) = l2 at *
          clear hl2
          generalize outs R C ms k = l at *
          obtain ⟨ln, hln⟩ : ∃ ln, l.length = ln := ⟨_, rfl⟩
          rw [hln] at hol hlt2 hml hmg HNm HNb HNa
          have HLN : Hid (l.length = ln ∧ l2.length = ln) := ⟨hln, hml⟩
          have HLT : Hid (∀ j, j < ln → l.getD j 0 < N ∧ l2.getD j 0 = C + l.getD j 0) := fun j hj => ⟨hlt2 j hj, hmg j hj⟩
          clear hln hml hlt2 hmg
          go_wp2_with (first
            | (go_at_call 22; (with_reducible refine (HCl.out _ H0.out).mono ?_); rintro e w' ⟨rfl, rfl⟩)
            | (go_at_call 10; (with_reducible refine (HNm.out _ H0.out).mono ?_); rintro e w12 ⟨ax, cx, rfl, hm⟩; have H12 : Hid (Many w F [⟨bm, gm, cm, R, C, ms⟩, ⟨ba, ga, ca, R + 1, C, ms ++ Pure.wallRow C⟩, ⟨bb, gb, cb, R + 1, C, Pure.wallRow C ++ ms⟩] w12 ∧ LstF F w12 (.slice ax ln cx) l) := hm; clear hm)
            | (go_at_call 10; (with_reducible refine (HNb.out w12 _ _ H12.out.1 H12.out.2).mono ?_); rintro e w13 ⟨ay, cy, rfl, hm⟩; have H13 : Hid (Many w F [⟨bm, gm, cm, R, C, ms⟩, ⟨ba, ga, ca, R + 1, C, ms ++ Pure.wallRow C⟩, ⟨bb, gb, cb, R + 1, C, Pure.wallRow C ++ ms⟩] w13 ∧ LstF F w13 (.slice ax ln cx) l ∧ LstF F w13 (.slice ay ln cy) l2) := hm; clear hm)
            | (go_at_call 10; (with_reducible refine (HNa.out w13 _ _ _ _ H13.out.1 H13.out.2.1 H13.out.2.2).mono ?_); rintro e w14 ⟨av, cv, rfl, hm⟩; have H14 : Hid (Many w F [⟨bm, gm, cm, R, C, ms⟩, ⟨ba, ga, ca, R + 1, C, ms ++ Pure.wallRow C⟩, ⟨bb, gb, cb, R + 1, C, Pure.wallRow C ++ ms⟩] w14 ∧ LstF F w14 (.slice ax ln cx) l ∧ LstF F w14 (.slice ay ln cy) l2 ∧ LstF F w14 (.slice av ln cv) l) := hm; clear hm)
            | (go_at_call 11; (with_reducible refine (HSm.out w14 _ _ _ _ H14.out.1 H14.out.2.2.2 H14.out.2.1 H14.out.2.2.1).mono ?_); rintro e w15 ⟨rfl, hm⟩; have H15 : Hid (Many w F [⟨bm, gm, cm, R, C, ms⟩, ⟨ba, ga, ca, R + 1, C, ms ++ Pure.wallRow C⟩, ⟨bb, gb, cb, R + 1, C, Pure.wallRow C ++ ms⟩] w15 ∧ LstF F w15 (.slice ax ln cx) l ∧ LstF F w15 (.slice ay ln cy) l2) := hm; clear hm)
            | (go_at_call 24; (with_reducible refine (HKm.out _ H15.out.1).mono ?_); rintro e w' ⟨rfl, rfl⟩)
            | (go_at_call 24; (with_reducible refine (HKb.out _ H15.out.1).mono ?_); rintro e w' ⟨rfl, rfl⟩))
          clear H0 H12 H13 H14 HNm HNb HNa HSm HKm HKb
          go_loopw [22] (fun jv wr => ∃ j : Nat, j ≤ ln ∧ jv = .int .i64 j ∧ (Many w F [⟨bm, gm, cm, R, C, ms⟩, ⟨ba, ga, ca, R + 1, C, ms ++ Pure.wallRow C⟩, ⟨bb, gb, cb, R + 1, C, Pure.wallRow C ++ ms⟩] wr ∧ LstF F wr (.slice ax ln cx) l ∧ LstF F wr (.slice ay ln cy) l2)) (fun jv _ => ln - (intOf jv).toNat)
          case atStart => exact ⟨0, Nat.zero_le _, rfl, H15.out⟩
          case round =>
            obtain ⟨j, hj, rfl, hm⟩ := hrel
            have HP : Hid (Many w F [⟨bm, gm, cm, R, C, ms⟩, ⟨ba, ga, ca, R + 1, C, ms ++ Pure.wallRow C⟩, ⟨bb, gb, cb, R + 1, C, Pure.wallRow C ++ ms⟩] wr ∧ LstF F wr (.slice ax ln cx) l ∧ LstF F wr (.slice ay ln cy) l2) := hm
            clear hm H15
            by_cases hjl : j < ln
            · obtain ⟨⟨a1, c1, e1, f1⟩, ⟨a2, c2, e2, f2⟩⟩ := HP.out.2
              obtain ⟨g1, rfl, _, q1⟩ := f1 j (by rw [HLN.out.1]; exact hjl)
              obtain ⟨g2, rfl, _, q2⟩ := f2 j (by rw [HLN.out.2]; exact hjl)
              simp only [Value.slice.injEq] at e1 e2
              obtain ⟨rfl, _, rfl⟩ := e1
              obtain ⟨rfl, _, rfl⟩ := e2
              obtain ⟨hx, hy⟩ := HLT.out j hjl
              rw [hy] at q2
              have hwx := HWX.out _ hx
              clear f1 f2 hy
              generalize l.getD j 0 = xv at *
              have hne : (((C + xv : Nat) : Int) != ((C + xv : Nat) : Int)) = false := by simp
              have hji : (j : Int) < (ln : Int) := by omega
              have hj0 : (0 : Int) ≤ (j : Int) := by omega
              have HD : Hid (∀ r, Many w F [⟨bm, gm, cm, R, C, ms⟩, ⟨ba, ga, ca, R + 1, C, ms ++ Pure.wallRow C⟩, ⟨bb, gb, cb, R + 1, C, Pure.wallRow C ++ ms⟩] (wr.drewN r) ∧ LstF F (wr.drewN r) (.slice (some ⟨g1, 0, none⟩) ln cx) l ∧ LstF F (wr.drewN r) (.slice (some ⟨g2, 0, none⟩) ln cy) l2) := by
                intro r
                obtain ⟨m1, t1⟩ := HP.out.1.below (bel_drewN (Below.refl _ _) r)
                exact ⟨m1, HP.out.2.1.turns t1, HP.out.2.2.turns t1⟩
              obtain ⟨yv, hyv⟩ : ∃ yv : Int, ((C + xv : Nat) : Int) = yv := ⟨_, rfl⟩
              rw [hyv] at q2 hwx hne
              clear hyv
              go_wp2
              go_region
              go_wp2
              go_roundw
              case rel => exact ⟨j + 1, by omega, by go_num, HD.out _⟩
              case measure => simp [intOf]; omega
            · obtain rfl : ln = j := by omega
              go_wp2
              go_roundw
              case rel => exact ⟨k + 1, by omega, by go_num, HP.out.1⟩
              case measure => simp [intOf]; omega
        · obtain rfl : N = k := by omega
          go_wp2_with (go_at_call 22; (with_reducible refine (HCl.out _ H0.out).mono ?_); rintro e w' ⟨rfl, rfl⟩)
          go_ret
          exact ⟨rfl, H0.out.bl⟩

theorem walled_all (s : ByteArray) (hs : s.size ≤ 9223372036854775807) (w : World) (hw : Ways w) :
    Calls Tryd.prog 6 #[.string s] w fun e w' => e = .returned (.bool true) ∧ Below w.heap.size w w' := by
  by_cases h : 500 < s.size
  · exact walled_long s w hw h hs
  · cases hv : Pure.verdict s.data.toList with
    | bad l c => exact walled_bad s w hw (by omega) hv
    | good L =>
      by_cases hr : 31 ≤ L.length
      · exact walled_tall s w hw (by omega) hv hr
      · exact walled_good s w hw (by omega) hv (by omega)
end Go.Proofs.YtlkojoinbogkmaaDoor
