/-
  The walk of the law GridTurned: the beginnings, and the text upside down.
-/
import Derived.Test.YtlkojoinbogkmaaDoorTb
import Derived.Test.YtlkojoinbogkmaaDoorGW0
namespace Go.Proofs.YtlkojoinbogkmaaDoor
set_option maxRecDepth 100000
set_option linter.unusedSimpArgs false
open Go.RowKit

theorem many_two {w w2 wr w3 : World} {bm gm cm bw gw cw : Nat} {L : List (List UInt8)} (hw : Ways w) (hG : Pure.Good L)
    (hm : MapAt w2 bm gm cm L ∧ Below w.heap.size w w2 ∧ w.heap.size ≤ bm) (hx : Below w2.heap.size w2 wr) (ha : MapAt w3 bw gw cw (turned L) ∧ Below wr.heap.size wr w3 ∧ wr.heap.size ≤ bw) :
    Many w w3.heap.size [⟨bm, gm, cm, L.length, Pure.wid L, L.flatten⟩, ⟨bw, gw, cw, L.length, Pure.wid L, (turned L).flatten⟩] w3 := by
  obtain ⟨m1, m2, m3⟩ := hm
  obtain ⟨a1, a2, a3⟩ := ha
  have hwl : 0 < w.heap.size := World.block_lt_of_cell? w ⟨0, 0, none⟩ (hw 0 _ rfl)
  have lm := blk_lt m1.blk
  have la := blk_lt a1.blk
  have gm1 := m1.own.lt gm rfl
  have ga1 := a1.own.lt gw rfl
  have s2 := m2.size
  have sx := hx.size
  have s3 := a2.size
  have hbelr : Below w.heap.size w wr := m2.trans (hx.mono s2)
  have hbel : Below w.heap.size w w3 := hbelr.trans (a2.mono hbelr.size)
  have em := mp_at hw hG ((m1.below hx (Nat.le_refl _)).below a2 (Nat.le_refl _)) hbel m3 w3.heap.size
  have ea := mp_at hw (turned_good hG) a1 hbel (by omega) w3.heap.size
  rw [turned_wid hG] at ea
  have hl : (turned L).length = L.length := by simp [turned]
  rw [hl] at ea
  refine ⟨?_, ?_, ?_, ?_, hwl, hbel, Nat.le_refl _⟩
  · intro p hp
    simp only [List.mem_cons, List.not_mem_nil, or_false] at hp
    rcases hp with rfl | rfl
    · exact em
    · exact ea
  · intro p hp
    simp only [List.mem_cons, List.not_mem_nil, or_false] at hp
    rcases hp with rfl | rfl <;> (dsimp only; omega)
  · intro p hp q hq
    simp only [List.mem_cons, List.not_mem_nil, or_false] at hp hq
    rcases hp with rfl | rfl <;> rcases hq with rfl | rfl <;> (dsimp only; omega)
  · intro p hp q hq h
    simp only [List.mem_cons, List.not_mem_nil, or_false] at hp hq
    rcases hp with rfl | rfl <;> rcases hq with rfl | rfl <;> first | rfl | (dsimp only at h; omega)

theorem turn_nums {R C v : Nat} (hR : R ≤ 32) (hC : C ≤ 32) (hC1 : 1 ≤ C) (hv : v < R * C) : ∃ qa ma ra m : Nat,
    (v : Int) / (C : Int) = (qa : Int) ∧ (v : Int).tdiv (C : Int) = (qa : Int) ∧ (v : Int) % (C : Int) = (ma : Int) ∧ (v : Int).tmod (C : Int) = (ma : Int) ∧ IntKind.i64.wrap (qa : Int) = (qa : Int) ∧ IntKind.i64.wrap (ma : Int) = (ma : Int) ∧
    IntKind.i64.wrap ((R : Int) - 1 - (qa : Int)) = (ra : Int) ∧ IntKind.i64.wrap ((ra : Int) * (C : Int)) = (m : Int) ∧ IntKind.i64.wrap ((m : Int) + (ma : Int)) = ((sig R C v : Nat) : Int) := by
  have hd : v / C < R := by rw [Nat.div_lt_iff_lt_mul (by omega)]; exact hv
  have hm : v % C < C := Nat.mod_lt _ (by omega)
  have q1 : (v : Int) / (C : Int) = ((v / C : Nat) : Int) := by omega
  have q3 : (v : Int) % (C : Int) = ((v % C : Nat) : Int) := by omega
  have h5 : C * (R - 1 - v / C) ≤ 32 * 32 := Nat.mul_le_mul hC (Nat.le_trans (Nat.sub_le _ _) (by omega))
  refine ⟨v / C, v % C, R - 1 - v / C, C * (R - 1 - v / C), q1, by rw [Int.tdiv_eq_ediv_of_nonneg (by omega)]; exact q1, q3, by rw [Int.tmod_eq_emod_of_nonneg (by omega)]; exact q3, ?_, ?_, ?_, ?_, ?_⟩
  · generalize v / C = q at *; exact IntWalk.i64_in _ (by omega)
  · generalize v % C = q at *; exact IntWalk.i64_in _ (by omega)
  · generalize v / C = q at *
    rw [IntWalk.i64_in _ (by omega)]; omega
  · have e : ((R - 1 - v / C : Nat) : Int) * (C : Int) = ((C * (R - 1 - v / C) : Nat) : Int) := by rw [Int.natCast_mul, Int.mul_comm]
    rw [e]
    generalize C * (R - 1 - v / C) = y at *
    exact IntWalk.i64_in _ (by omega)
  · unfold sig
    generalize C * (R - 1 - v / C) = y at *
    generalize v % C = q at *
    rw [IntWalk.i64_in _ (by omega)]; omega

set_option maxHeartbeats 4000000 in
theorem turned_good_walk (s : ByteArray) (w : World) (hw : Ways w) (h : s.size ≤ 600) {L : List (List UInt8)} (hv : Pure.verdict s.data.toList = .good L) :
    Calls Tryd.prog 5 #[.string s] w fun e w' => e = .returned (.bool true) ∧ Below w.heap.size w w' := by
  have hgt := Pure.good_of hv
  have HA : Hid (Calls Tryd.prog 20 #[] w fun e w' => e = .returned (.bool true) ∧ Below w.heap.size w w') := alive_any w hw
  have HP : Hid (∀ w, Calls Tryd.prog 7 #[.string s] w fun e w' => ∃ b g cap, e = .returned (.tuple #[.pointer (some ⟨b, 0, none⟩), .int .i64 0, .int .i64 0, .int .i64 0]) ∧ (MapAt w' b g cap L ∧ Below w.heap.size w w' ∧ w.heap.size ≤ b)) := fun w => parse_good hgt.1 s hgt.2.symm w
  have HW : Hid (Ways w ∧ Pure.Good L) := ⟨hw, hgt.1⟩
  clear hv hw hgt
  obtain ⟨R, hR⟩ : ∃ R, L.length = R := ⟨_, rfl⟩
  obtain ⟨C, hC⟩ : ∃ C, Pure.wid L = C := ⟨_, rfl⟩
  have hR32 : R ≤ 32 := by rw [← hR]; exact HW.out.2.len
  have hC32 : C ≤ 32 := by rw [← hC]; exact HW.out.2.hi
  go_enter Tryd.func5, Tryd.ntmps5
  have hw1 : IntKind.i64.wrap ((R : Int) - 1) = (R : Int) - 1 := IntWalk.i64_in _ (by omega)
  go_wp2_with (first
    | (go_at_call 20; (with_reducible refine HA.out.mono ?_); rintro e w1 ⟨rfl, hb⟩; have H1 : Hid (Below w.heap.size w w1) := hb; clear hb)
    | (go_at_call 7; (with_reducible refine (HP.out _).mono ?_); rintro e w2 ⟨bm, gm, cm, rfl, hm⟩; have H2 : Hid (MapAt w2 bm gm cm L ∧ Below w1.heap.size w1 w2 ∧ w1.heap.size ≤ bm) := hm; clear hm)
    | (go_at_call 25; refine (rows_any bm (R : Int) w2 (by rw [blk_cell H2.out.1.blk, ← hR]; rfl)).mono ?_; rintro e w' ⟨rfl, rfl⟩))
  have HMt : Hid (∀ W, Below w2.heap.size w2 W → MapAt W bm gm cm L) := fun W hW => H2.out.1.below hW (Nat.le_refl _)
  have HCo : Hid (∀ W, Below w2.heap.size w2 W → Calls Tryd.prog 26 #[.pointer (some ⟨bm, 0, none⟩)] W fun e w' => e = .returned (.int .i64 (C : Int)) ∧ W = w') := fun W hW => cols_any bm _ W (by rw [blk_cell (HMt.out W hW).blk, ← hC]; rfl)
  have HKi : Hid (∀ W i, Below w2.heap.size w2 W → Calls Tryd.prog 24 #[.pointer (some ⟨bm, 0, none⟩), .int .i64 i] W fun e w' => e = .returned (.int .u8 ((kindB L.flatten i).toNat : Int)) ∧ W = w') := fun W i hW => kind_any bm gm cm _ i W (by rw [blk_cell (HMt.out W hW).blk]; rfl) (byte_cells (HMt.out W hW).own)

  go_loopw [8, 9] (fun t r wr => ∃ (p : Nat) (x : ByteArray), p ≤ R ∧ r = .int .i64 ((R : Int) - 1 - (p : Int)) ∧ t = .string x ∧ x.data.toList = tb L p 0 ∧ Below w2.heap.size w2 wr) (fun _ r _ => (intOf r + 1).toNat)
  case atStart =>
    exact ⟨0, _, Nat.zero_le _, by simp, rfl, by simp [tb, Pure.text], Below.refl _ _⟩
  case round =>
    obtain ⟨p, x, hp, rfl, rfl, hx, hb⟩ := hrel
    have HX0 : Hid (x.data.toList = tb L p 0) := hx
    have HB0 : Hid (Below w2.heap.size w2 wr) := hb
    clear hx hb
    by_cases hlt : p < R
    · obtain ⟨rr, hrr⟩ : ∃ rr : Nat, (R : Int) - 1 - (p : Int) = (rr : Int) := ⟨R - 1 - p, by omega⟩
      have hrn : Hid (rr = R - 1 - p) := by show _ = _; omega
      have hr32 : rr ≤ 32 := by omega
      have hrp : rr + 1 ≤ R := by omega
      have Hrr : Hid ((R : Int) - 1 - (p : Int) = (rr : Int)) := hrr
      rw [hrr]
      have hr0 : (0 : Int) ≤ (rr : Int) := by omega
      have hw2 : IntKind.i64.wrap ((rr : Int) * (C : Int)) = ((rr * C : Nat) : Int) := by
        have h5 : rr * C ≤ 32 * 32 := Nat.mul_le_mul (by omega) hC32
        have e5 : (rr : Int) * (C : Int) = ((rr * C : Nat) : Int) := by simp
        rw [e5, IntWalk.i64_in _ (by omega)]
      have hwr : IntKind.i64.wrap ((rr : Int) - 1) = (rr : Int) - 1 := IntWalk.i64_in _ (by omega)
      clear hrr
      go_wp2
      go_loopw [8, 10] (fun t cv wr => ∃ (c : Nat) (x : ByteArray), c ≤ C ∧ cv = .int .i64 c ∧ t = .string x ∧ x.data.toList = tb L p c ∧ Below w2.heap.size w2 wr) (fun _ cv _ => C - (intOf cv).toNat)
      case atStart => exact ⟨0, x, Nat.zero_le _, rfl, rfl, HX0.out, HB0.out⟩
      case round =>
        obtain ⟨c, x, hc, rfl, rfl, hx, hb⟩ := hrel
        have HX : Hid (x.data.toList = tb L p c) := hx
        have HB : Hid (Below w2.heap.size w2 wr) := hb
        have hxs : x.size ≤ 2000 := by
          have h5 : x.size = x.data.toList.length := by simp
          rw [h5, hx]
          exact tb_len HW.out.2 (by rw [hC]; exact hc)
        clear hx hb
        by_cases hcl : c < C
        · have hci : (c : Int) < (C : Int) := by omega
          have htb := tb_cell HW.out.2 (p := p) (c := c) (by rw [hR]; exact hlt) (by rw [hC]; exact hcl)
          rw [hC, hR, ← hrn.out] at htb
          have hkn : rr * C + c < L.flatten.length := by
            rw [HW.out.2.size, hR, hC]
            have h5 : rr * C + C ≤ R * C := by
              have h6 : (rr + 1) * C ≤ R * C := Nat.mul_le_mul_right C (by omega)
              rw [Nat.add_mul, Nat.one_mul] at h6
              exact h6
            omega
          have h32 : rr * C ≤ 32 * 32 := Nat.mul_le_mul (by omega) hC32
          have hw3 : IntKind.i64.wrap (((rr * C : Nat) : Int) + (c : Int)) = ((rr * C + c : Nat) : Int) := by rw [IntWalk.i64_in _ (by omega)]; simp
          obtain ⟨d, hdd⟩ : ∃ d, L.flatten.getD (rr * C + c) 0 = d := ⟨_, rfl⟩
          rw [hdd] at htb
          have HKc : Hid (∀ W, Below w2.heap.size w2 W → Calls Tryd.prog 24 #[.pointer (some ⟨bm, 0, none⟩), .int .i64 ((rr * C + c : Nat) : Int)] W fun e w' => e = .returned (.int .u8 (d.toNat : Int)) ∧ W = w') := by
            intro W hW
            have h5 := HKi.out W ((rr * C + c : Nat) : Int) hW
            have e5 : kindB L.flatten ((rr * C + c : Nat) : Int) = d := by
              unfold kindB
              rw [if_pos (by omega), Int.toNat_natCast, hdd]
            rw [e5] at h5
            exact h5
          have hsa : ∀ t : UInt8, (x ++ ⟨#[t]⟩).size = x.size + 1 := fun t => by rw [ByteArray.size_append]; rfl
          generalize ((rr * C + c : Nat) : Int) = z at hw3 HKc
          generalize ((rr * C : Nat) : Int) = z2 at hw2 hw3
          by_cases h94 : d = 94
          · have hA : ((d.toNat : Int) == 94) = true := by rw [h94]; rfl
            have hcv : ∀ w : World, (convert 41 9 (.slice (some ⟨w.heap.size, 0, none⟩) 1 1)).run Tryd.prog (w.alloc (.cells #[.int .u8 118] 5)) = .ok (.string ⟨#[turnC d]⟩) (w.alloc (.cells #[.int .u8 118] 5)) := fun w => conv_one w (turnC d) 118 (by rw [h94]; rfl)
            generalize turnC d = td at hcv htb
            clear hdd
            go_wp2_with (first
              | (go_at_call 26; (with_reducible refine (HCo.out _ HB.out).mono ?_); rintro e w' ⟨rfl, rfl⟩)
              | (go_at_call 24; (with_reducible refine (HKc.out _ HB.out).mono ?_); rintro e w' ⟨rfl, rfl⟩))
            go_roundw
            case rel => exact ⟨c + 1, x ++ ⟨#[td]⟩, by omega, by go_num, rfl, by rw [htb, ← HX.out]; simp, HB.out.alloc HB.out.size _⟩
            case measure => simp [intOf]; omega
          · by_cases h118 : d = 118
            · have hA : ((d.toNat : Int) == 94) = false := by rw [h118]; rfl
              have hB : ((d.toNat : Int) == 118) = true := by rw [h118]; rfl
              have hcv : ∀ w : World, (convert 41 9 (.slice (some ⟨w.heap.size, 0, none⟩) 1 1)).run Tryd.prog (w.alloc (.cells #[.int .u8 94] 5)) = .ok (.string ⟨#[turnC d]⟩) (w.alloc (.cells #[.int .u8 94] 5)) := fun w => conv_one w (turnC d) 94 (by rw [h118]; rfl)
              generalize turnC d = td at hcv htb
              clear hdd
              go_wp2_with (first
                | (go_at_call 26; (with_reducible refine (HCo.out _ HB.out).mono ?_); rintro e w' ⟨rfl, rfl⟩)
                | (go_at_call 24; (with_reducible refine (HKc.out _ HB.out).mono ?_); rintro e w' ⟨rfl, rfl⟩))
              go_roundw
              case rel => exact ⟨c + 1, x ++ ⟨#[td]⟩, by omega, by go_num, rfl, by rw [htb, ← HX.out]; simp, HB.out.alloc HB.out.size _⟩
              case measure => simp [intOf]; omega
            · have hA : ((d.toNat : Int) == 94) = false := by
                rw [beq_eq_false_iff_ne]; intro e; apply h94
                have : d.toNat = 94 := by omega
                exact UInt8.toNat_inj.1 this
              have hB : ((d.toNat : Int) == 118) = false := by
                rw [beq_eq_false_iff_ne]; intro e; apply h118
                have : d.toNat = 118 := by omega
                exact UInt8.toNat_inj.1 this
              have hcv : ∀ w : World, (convert 41 9 (.slice (some ⟨w.heap.size, 0, none⟩) 1 1)).run Tryd.prog (w.alloc (.cells #[.int .u8 (d.toNat : Int)] 5)) = .ok (.string ⟨#[turnC d]⟩) (w.alloc (.cells #[.int .u8 (d.toNat : Int)] 5)) := fun w => conv_one w (turnC d) (d.toNat : Int) (by unfold turnC; rw [if_neg h94, if_neg h118])
              generalize turnC d = td at hcv htb
              clear hdd
              go_wp2_with (first
                | (go_at_call 26; (with_reducible refine (HCo.out _ HB.out).mono ?_); rintro e w' ⟨rfl, rfl⟩)
                | (go_at_call 24; (with_reducible refine (HKc.out _ HB.out).mono ?_); rintro e w' ⟨rfl, rfl⟩))
              go_roundw
              case rel => exact ⟨c + 1, x ++ ⟨#[td]⟩, by omega, by go_num, rfl, by rw [htb, ← HX.out]; simp, HB.out.alloc HB.out.size _⟩
              case measure => simp [intOf]; omega
        · obtain rfl : C = c := by omega
          have hsb : (x ++ ⟨#[10]⟩).size = x.size + 1 := by rw [ByteArray.size_append]; rfl
          have htr := tb_row HW.out.2 (p := p) (by rw [hR]; exact hlt)
          rw [hC] at htr
          go_wp2_with (go_at_call 26; (with_reducible refine (HCo.out _ HB.out).mono ?_); rintro e w' ⟨rfl, rfl⟩)
          go_roundw
          case rel => exact ⟨p + 1, x ++ ⟨#[10]⟩, by omega, congrArg (Value.int IntKind.i64) (by have h5 := Hrr.out; omega), rfl, by rw [htr, ← HX.out]; simp, HB.out⟩
          case measure => have h5 := Hrr.out; simp [intOf]; try omega
    · obtain rfl : R = p := by omega
      have HT : Hid (x.data.toList = Pure.text (turned L)) := by
        have h5 := HX0.out
        rw [← hR] at h5
        show _ = _
        rw [h5, tb_end]
      have hms : ∃ ms, L.flatten = ms := ⟨_, rfl⟩
      obtain ⟨ms, hms⟩ := hms
      obtain ⟨ms2, hms2⟩ : ∃ ms2, (turned L).flatten = ms2 := ⟨_, rfl⟩
      have hTn := turned_flat HW.out.2
      have hsz := HW.out.2.size
      have hsm := HW.out.2.small
      have hlo := HW.out.2.lo
      rw [hms, hms2, hR, hC] at hTn
      rw [hms, hR, hC] at hsz
      rw [hms] at hsm
      rw [hC] at hlo
      have HPt : Hid (∀ W, Calls Tryd.prog 7 #[.string x] W fun e w' => ∃ b g cap, e = .returned (.tuple #[.pointer (some ⟨b, 0, none⟩), .int .i64 0, .int .i64 0, .int .i64 0]) ∧ (MapAt w' b g cap (turned L) ∧ Below W.heap.size W w' ∧ W.heap.size ≤ b)) := fun W => parse_good (turned_good HW.out.2) x HT.out W
      go_wp2_with (go_at_call 7; (with_reducible refine (HPt.out _).mono ?_); rintro e w3 ⟨bw, gw, cw, rfl, hm⟩; have H3 : Hid (MapAt w3 bw gw cw (turned L) ∧ Below wr.heap.size wr w3 ∧ wr.heap.size ≤ bw) := hm; clear hm)
      obtain ⟨F, hF⟩ : ∃ F, w3.heap.size = F := ⟨_, rfl⟩
      have HM : Hid (Many w F [⟨bm, gm, cm, R, C, ms⟩, ⟨bw, gw, cw, R, C, ms2⟩] w3) := by
        have h1 := H1.out
        obtain ⟨m1, m2, m3⟩ := H2.out
        have hz := h1.size
        have h5 := many_two HW.out.1 HW.out.2 ⟨m1, h1.trans (m2.mono h1.size), by omega⟩ HB0.out H3.out
        rw [hR, hC, hms, hms2, hF] at h5
        exact h5
      clear HA HP HW H1 H2 H3 HMt HCo HKi HX0 HB0 HT HPt hR hC hms hms2 hF
      have HTn : Hid (Turned R C ms ms2 ∧ R * C = ms.length ∧ 1 ≤ C) := ⟨hTn, hsz.symm, hlo⟩
      obtain ⟨N, hNe⟩ : ∃ N, ms.length = N := ⟨_, rfl⟩
      have HNe : Hid (ms.length = N) := hNe
      rw [hNe] at hsm
      have HEm : Hid (∀ W, Many w F [⟨bm, gm, cm, R, C, ms⟩, ⟨bw, gw, cw, R, C, ms2⟩] W → Calls Tryd.prog 19 #[.pointer (some ⟨bm, 0, none⟩)] W fun e w' => e = .returned (.int .i64 (eds R C ms ms.length : Int)) ∧ Many w F [⟨bm, gm, cm, R, C, ms⟩, ⟨bw, gw, cw, R, C, ms2⟩] w') := fun W hW => (n_edges (p := ⟨bm, gm, cm, R, C, ms⟩) (by simp) hW).mono fun e w' h => ⟨h.1, h.2.1⟩
      have HEw : Hid (∀ W, Many w F [⟨bm, gm, cm, R, C, ms⟩, ⟨bw, gw, cw, R, C, ms2⟩] W → Calls Tryd.prog 19 #[.pointer (some ⟨bw, 0, none⟩)] W fun e w' => e = .returned (.int .i64 (eds R C ms ms.length : Int)) ∧ Many w F [⟨bm, gm, cm, R, C, ms⟩, ⟨bw, gw, cw, R, C, ms2⟩] w') := by
        intro W hW
        have h5 := n_edges (p := ⟨bw, gw, cw, R, C, ms2⟩) (by simp) hW
        dsimp only at h5
        rw [eds_turn hlo hTn hsz.symm] at h5
        exact h5.mono fun e w' h => ⟨h.1, h.2.1⟩
      have HCl : Hid (∀ W, Many w F [⟨bm, gm, cm, R, C, ms⟩, ⟨bw, gw, cw, R, C, ms2⟩] W → Calls Tryd.prog 22 #[.pointer (some ⟨bm, 0, none⟩)] W fun e w' => e = .returned (.int .i64 (N : Int)) ∧ W = w') := fun W hW => hNe ▸ n_cells (p := ⟨bm, gm, cm, R, C, ms⟩) (by simp) hW
      have HRo : Hid (∀ W, Many w F [⟨bm, gm, cm, R, C, ms⟩, ⟨bw, gw, cw, R, C, ms2⟩] W → Calls Tryd.prog 25 #[.pointer (some ⟨bm, 0, none⟩)] W fun e w' => e = .returned (.int .i64 (R : Int)) ∧ w' = W) := fun W hW => (rows_any bm _ W (hW.em ⟨bm, gm, cm, R, C, ms⟩ (by simp)).1.c0).mono fun e w' h => ⟨h.1, h.2.symm⟩
      have HCo : Hid (∀ W, Many w F [⟨bm, gm, cm, R, C, ms⟩, ⟨bw, gw, cw, R, C, ms2⟩] W → Calls Tryd.prog 26 #[.pointer (some ⟨bm, 0, none⟩)] W fun e w' => e = .returned (.int .i64 (C : Int)) ∧ w' = W) := fun W hW => (cols_any bm _ W (hW.em ⟨bm, gm, cm, R, C, ms⟩ (by simp)).1.c1).mono fun e w' h => ⟨h.1, h.2.symm⟩
      clear hNe hsz hTn
      generalize eds R C ms ms.length = E at HEm HEw
      go_wp2_with (first
        | (go_at_call 19; (with_reducible refine (HEw.out _ HM.out).mono ?_); rintro e w5 ⟨rfl, hm⟩; have H5 : Hid (Many w F [⟨bm, gm, cm, R, C, ms⟩, ⟨bw, gw, cw, R, C, ms2⟩] w5) := hm; clear hm)
        | (go_at_call 19; (with_reducible refine (HEm.out _ H5.out).mono ?_); rintro e w6 ⟨rfl, hm⟩; have H6 : Hid (Many w F [⟨bm, gm, cm, R, C, ms⟩, ⟨bw, gw, cw, R, C, ms2⟩] w6) := hm; clear hm))
      clear HM H5 HEm HEw
      go_loopw [16] (fun av wr => ∃ a : Nat, a ≤ N ∧ av = .int .i64 a ∧ Many w F [⟨bm, gm, cm, R, C, ms⟩, ⟨bw, gw, cw, R, C, ms2⟩] wr) (fun av _ => N - (intOf av).toNat)
      case atStart => exact ⟨0, Nat.zero_le _, rfl, H6.out⟩
      case round =>
        obtain ⟨a, ha, rfl, hm⟩ := hrel
        have H0 : Hid (Many w F [⟨bm, gm, cm, R, C, ms⟩, ⟨bw, gw, cw, R, C, ms2⟩] wr) := hm
        clear hm H6
        by_cases hlt : a < N
        · have haR : a < R * C := by rw [HTn.out.2.1, HNe.out]; exact hlt
          have haN : a < ms.length := by rw [HNe.out]; exact hlt
          have HNx : Hid (∀ W, Many w F [⟨bm, gm, cm, R, C, ms⟩, ⟨bw, gw, cw, R, C, ms2⟩] W → Calls Tryd.prog 10 #[.pointer (some ⟨bm, 0, none⟩), .int .i64 (a : Int)] W fun e w' => ∃ x c, e = .returned (.slice x (outs R C ms a).length c) ∧ (Many w F [⟨bm, gm, cm, R, C, ms⟩, ⟨bw, gw, cw, R, C, ms2⟩] w' ∧ LstF F w' (.slice x (outs R C ms a).length c) (outs R C ms a))) := by
            intro W hW
            have h5 := n_next (p := ⟨bm, gm, cm, R, C, ms⟩) (by simp) (a : Int) hW
            dsimp only at h5
            have e5 : nextZ R C ms (a : Int) = outs R C ms a := by unfold nextZ; rw [if_pos (by omega)]; rfl
            rw [e5] at h5
            exact h5.mono fun e w' ⟨x, c, h1, h2, _, h4⟩ => ⟨x, c, h1, h2, h4⟩
          have hol := outs_len R C ms a
          have HOut : Hid (∀ j, j < (outs R C ms a).length → (outs R C ms a).getD j 0 < R * C ∧ ∀ W, Many w F [⟨bm, gm, cm, R, C, ms⟩, ⟨bw, gw, cw, R, C, ms2⟩] W → Calls Tryd.prog 15 #[.pointer (some ⟨bw, 0, none⟩), .int .i64 ((sig R C a : Nat) : Int), .int .i64 ((sig R C ((outs R C ms a).getD j 0) : Nat) : Int)] W fun e w' => e = .returned (.bool true) ∧ Many w F [⟨bm, gm, cm, R, C, ms⟩, ⟨bw, gw, cw, R, C, ms2⟩] w' ∧ Turns F W w') := by
            intro j hj
            have hg : (outs R C ms a).getD j 0 = (outs R C ms a)[j] := by simp [List.getD, hj]
            have hm : (outs R C ms a).getD j 0 ∈ outs R C ms a := by rw [hg]; exact List.getElem_mem hj
            refine ⟨outs_bd hm, fun W hW => ?_⟩
            have h5 := n_edge (p := ⟨bw, gw, cw, R, C, ms2⟩) (by simp) ((sig R C a : Nat) : Int) ((sig R C ((outs R C ms a).getD j 0) : Nat) : Int) hW
            dsimp only at h5
            have hs := sig_lt haR HTn.out.2.2
            have e5 : nextZ R C ms2 ((sig R C a : Nat) : Int) = outs R C ms2 (sig R C a) := by unfold nextZ; rw [if_pos (by have := HTn.out.1.1; have := HTn.out.2.1; omega)]; rfl
            have e6 : (nextZ R C ms2 ((sig R C a : Nat) : Int)).any (fun u => (u : Int) == ((sig R C ((outs R C ms a).getD j 0) : Nat) : Int)) = true := by
              rw [e5, List.any_eq_true]
              exact ⟨_, outs_turn HTn.out.2.2 HTn.out.1 haR hm, by simp⟩
            rw [e6] at h5
            exact h5
          obtain ⟨qa, ma, ra, m, n1, n2, n3, n4, n5, n6, n7, n8, n9⟩ := turn_nums hR32 hC32 hlo haR
          generalize ((sig R C a : Nat) : Int) = xa at HOut n9
          generalize outs R C ms a = l at *
          obtain ⟨ln, hln⟩ : ∃ ln, l.length = ln := ⟨_, rfl⟩
          rw [hln] at hol HNx HOut
          have HLN : Hid (l.length = ln) := hln
          clear hln
          have hCz : ((C : Int) == 0) = false := by rw [beq_eq_false_iff_ne]; omega
          go_wp2_with (first
            | (go_at_call 22; (with_reducible refine (HCl.out _ H0.out).mono ?_); rintro e w' ⟨rfl, rfl⟩)
            | (go_at_call 10; (with_reducible refine (HNx.out _ H0.out).mono ?_); rintro e w7 ⟨ax, cx, rfl, hm⟩; have H7 : Hid (Many w F [⟨bm, gm, cm, R, C, ms⟩, ⟨bw, gw, cw, R, C, ms2⟩] w7 ∧ LstF F w7 (.slice ax ln cx) l) := hm; clear hm))
          clear H0 HNx
          go_loopw [18] (fun jv wr => ∃ j : Nat, j ≤ ln ∧ jv = .int .i64 j ∧ (Many w F [⟨bm, gm, cm, R, C, ms⟩, ⟨bw, gw, cw, R, C, ms2⟩] wr ∧ LstF F wr (.slice ax ln cx) l)) (fun jv _ => ln - (intOf jv).toNat)
          case atStart => exact ⟨0, Nat.zero_le _, rfl, H7.out⟩
          case round =>
            obtain ⟨j, hj, rfl, hm⟩ := hrel
            have HP : Hid (Many w F [⟨bm, gm, cm, R, C, ms⟩, ⟨bw, gw, cw, R, C, ms2⟩] wr ∧ LstF F wr (.slice ax ln cx) l) := hm
            clear hm H7
            by_cases hjl : j < ln
            · obtain ⟨hbR, hE⟩ := HOut.out j hjl
              obtain ⟨a1, c1, e1, f1⟩ := HP.out.2
              obtain ⟨g1, rfl, _, q1⟩ := f1 j (by rw [HLN.out]; exact hjl)
              simp only [Value.slice.injEq] at e1
              obtain ⟨rfl, hcl, rfl⟩ := e1
              clear f1 hcl
              generalize l.getD j 0 = b at *
              obtain ⟨qb, mb, rb, k, o1, o2, o3, o4, o5, o6, o7, o8, o9⟩ := turn_nums hR32 hC32 hlo hbR
              generalize ((sig R C b : Nat) : Int) = yb at hE o9
              have HE : Hid (∀ W, Many w F [⟨bm, gm, cm, R, C, ms⟩, ⟨bw, gw, cw, R, C, ms2⟩] W → Calls Tryd.prog 15 #[.pointer (some ⟨bw, 0, none⟩), .int .i64 xa, .int .i64 yb] W fun e w' => e = .returned (.bool true) ∧ Many w F [⟨bm, gm, cm, R, C, ms⟩, ⟨bw, gw, cw, R, C, ms2⟩] w' ∧ Turns F W w') := hE
              have HD : Hid (∀ W r, (Many w F [⟨bm, gm, cm, R, C, ms⟩, ⟨bw, gw, cw, R, C, ms2⟩] W ∧ LstF F W (.slice (some ⟨g1, 0, none⟩) ln cx) l) → (Many w F [⟨bm, gm, cm, R, C, ms⟩, ⟨bw, gw, cw, R, C, ms2⟩] (W.drewN r) ∧ LstF F (W.drewN r) (.slice (some ⟨g1, 0, none⟩) ln cx) l)) := by
                intro W r hW
                obtain ⟨m1, t1⟩ := hW.1.below (bel_drewN (Below.refl _ _) r)
                exact ⟨m1, hW.2.turns t1⟩
              have hji : (j : Int) < (ln : Int) := by omega
              have hj0 : (0 : Int) ≤ (j : Int) := by omega
              clear hE hbR
              go_wp2
              go_quiet ((first | (go_at_call 25; with_reducible exact Calls.quiet_of_same (HRo.out _ (HD.out _ _ HP.out).1)) | (go_at_call 26; with_reducible exact Calls.quiet_of_same (HCo.out _ (HD.out _ _ HP.out).1))))
              go_wp2
              have HP2 : Hid (Many w F [⟨bm, gm, cm, R, C, ms⟩, ⟨bw, gw, cw, R, C, ms2⟩] (wr.drewN nq) ∧ LstF F (wr.drewN nq) (.slice (some ⟨g1, 0, none⟩) ln cx) l) := HD.out _ _ HP.out
              have q2 : (wr.drewN nq).cell? ⟨g1, j, none⟩ = some (.int .i64 (b : Int)) := q1
              generalize wr.drewN nq = wq at HP2 q2 ⊢
              clear q1
              go_quiet ((first | (go_at_call 25; with_reducible exact Calls.quiet_of_same (HRo.out _ (HD.out _ _ HP2.out).1)) | (go_at_call 26; with_reducible exact Calls.quiet_of_same (HCo.out _ (HD.out _ _ HP2.out).1))))
              have HP3 : Hid (Many w F [⟨bm, gm, cm, R, C, ms⟩, ⟨bw, gw, cw, R, C, ms2⟩] (wq.drewN nq) ∧ LstF F (wq.drewN nq) (.slice (some ⟨g1, 0, none⟩) ln cx) l) := HD.out _ _ HP2.out
              generalize wq.drewN nq = wv at HP3 ⊢
              go_wp2_with (go_at_call 15; (with_reducible refine (HE.out _ HP3.out.1).mono ?_); rintro e w8 ⟨rfl, hm, ht⟩; have H8 : Hid (Many w F [⟨bm, gm, cm, R, C, ms⟩, ⟨bw, gw, cw, R, C, ms2⟩] w8 ∧ LstF F w8 (.slice (some ⟨g1, 0, none⟩) ln cx) l) := ⟨hm, HP3.out.2.turns ht⟩; clear hm ht)
              go_roundw
              case rel => exact ⟨j + 1, by omega, by go_num, H8.out⟩
              case measure => simp [intOf]; omega
            · obtain rfl : ln = j := by omega
              go_wp2
              go_roundw
              case rel => exact ⟨a + 1, by omega, by go_num, HP.out.1⟩
              case measure => simp [intOf]; omega
        · obtain rfl : N = a := by omega
          go_wp2_with (go_at_call 22; (with_reducible refine (HCl.out _ H0.out).mono ?_); rintro e w' ⟨rfl, rfl⟩)
          go_ret
          exact ⟨rfl, H0.out.bl⟩
end Go.Proofs.YtlkojoinbogkmaaDoor
