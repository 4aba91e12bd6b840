/-
  ClaimNames.
-/
import Derived.Test.YtijhkjegpcmjoaaCl9
namespace Go.Proofs.Ytijhkjegpcmjoaa
set_option maxRecDepth 100000
set_option linter.unusedSimpArgs false
open Go Go.RowKit Cl

/-- Behind k more claims. -/
def sN (k : Nat) : List Cm := ⟨2, 300⟩ :: (List.range k).map fun (i : Nat) => ⟨10 + (i : Int), 1⟩
theorem sN_len (k : Nat) : (sN k).length = k + 1 := by simp [sN]
theorem sN_ge {k : Nat} : ∀ x ∈ sN k, x.c < 10 + (k : Int) := by
  intro x hx
  rcases List.mem_cons.1 hx with rfl | hx
  · show (2 : Int) < _; omega
  · obtain ⟨i, hi, rfl⟩ := List.mem_map.1 hx
    have := List.mem_range.1 hi
    show 10 + (i : Int) < _; omega
theorem sN_idx (k : Nat) : idx (sN k) (10 + (k : Int)) = (sN k).length := by
  refine idx_eq (Nat.le_refl _) (fun j hj => sN_ge _ (getD_mem hj)) (fun j h1 h2 => by omega)
theorem sN_has (k : Nat) : has (sN k) (10 + (k : Int)) = false := by
  unfold has
  rw [sN_idx, decide_eq_false (Nat.lt_irrefl _)]; rfl
theorem sN_e {k : Nat} (hk : k < 15) : takeE (sN k) (10 + (k : Int)) = 0 := by
  rw [takeE_zero]
  refine ⟨?_, sN_has k, by rw [sN_len]; omega⟩
  unfold isC
  rw [decide_eq_true (by omega), decide_eq_true (by omega)]; rfl
theorem sN_take {k : Nat} (hk : k < 15) : takeL (sN k) ⟨10 + (k : Int), 1⟩ = sN (k + 1) := by
  unfold takeL
  rw [if_pos (sN_e hk)]
  unfold ins
  rw [show (⟨10 + (k : Int), 1⟩ : Cm).c = 10 + (k : Int) from rfl, sN_idx, List.take_length, List.drop_length]
  simp [sN, List.range_succ]
theorem isM_one (w : World) (a : Cm) : IsM (w.alloc (.cells #[.int .i64 a.c, .int .u32 a.g] 26)) (.slice (some ⟨w.heap.size, 0, none⟩) 1 1) [a] := by
  have h := World.alloc_heap_new w (.cells #[.int .i64 a.c, .int .u32 a.g] 26)
  refine ⟨some ⟨w.heap.size, 0, none⟩, 1, rfl, fun j hj => ⟨w.heap.size, rfl, ?_⟩⟩
  have hj1 : j < 1 := hj
  obtain rfl : j = 0 := by omega
  rw [blk_cell h, blk_cell h]
  exact ⟨rfl, rfl⟩
def r1 (A : Option Addr) : List Rc := [⟨2, 1, [1], A, 1⟩]
def r2 : List Rc := [⟨2, 1, [], none, 0⟩, ⟨2, 1, [], none, 0⟩]
def r3 : List Rc := [⟨2, -1, [], none, 0⟩]
def r4 (A B : Option Addr) : List Rc := [⟨1, -1, [1], A, 1⟩, ⟨2, 5, [0, 0, 0, 9], B, 4⟩, ⟨2, 6, [], none, 0⟩]
theorem l1 (A : Option Addr) : ldR (r1 A) = (130, []) := rfl
theorem l2' : ldR r2 = (130, []) := by decide
theorem l3 : ldR r3 = (130, []) := by decide
theorem l4 (A B : Option Addr) : ldR (r4 A B) = (0, [⟨5, 9⟩]) := rfl
set_option maxHeartbeats 8000000 in
theorem names_any (w : World) : Calls Try.prog 5 #[] w fun e w' => e = .returned (.bool true) ∧ Below w.heap.size w w' := by
  obtain ⟨R, hR⟩ : ∃ R : Ending → World → Prop, R = fun e w' => e = .returned (.bool true) ∧ Below w.heap.size w w' := ⟨_, rfl⟩
  have HR : Hid (∀ w', Below w.heap.size w w' → R (.returned (.bool true)) w') := by rw [hR]; exact fun w' h => ⟨rfl, h⟩
  rw [← hR]
  clear hR
  have HS := Lib.hid (some_any w)
  go_enter Try.func5, Try.ntmps5
  go_wp2_with fail
  refine HS.out.mono ?_
  rintro e W1 ⟨rfl, h1, b1⟩
  obtain ⟨b, hb⟩ : ∃ b, b = w.heap.size := ⟨_, rfl⟩
  rw [← hb] at h1 ⊢
  have H1 : Hid (Calls Try.prog 21 #[.pointer (some ⟨b, 0, none⟩), .int .i64 3] W1 fun e w' => e = .returned (.agg #[.int .i64 2, .int .i64 3, .slice none 0 0]) ∧ CAt w' b l2 ∧ Below w.heap.size w w' ∧ w.heap.size ≤ b ∧ b < w'.heap.size) := by
    refine (record_any (.inr ⟨b, rfl, h1⟩) 3).mono ?_
    rintro e w' ⟨d, rfl, hd, hbb⟩
    have : genO l2 3 = none := rfl
    rw [this] at hd
    cases hd
    exact ⟨rfl, h1.below hbb, b1.trans (hbb.mono b1.size), by omega, by have := h1.lt; have := hbb.size; omega⟩
  clear h1 b1 HS hb
  go_wp2_with fail
  refine H1.out.mono ?_
  rintro e W2 ⟨rfl, h2, b2, hwb, hbl⟩
  obtain ⟨px, hpx⟩ : ∃ px, px = W2.heap.size := ⟨_, rfl⟩
  have s3 : St w b px #[.int .i64 2, .int .i64 3, .slice none 0 0] l2 (W2.alloc (.cells #[.int .i64 2, .int .i64 3, .slice none 0 0] 49)) :=
    ⟨h2.below (alloc_below W2 _), by rw [hpx]; exact World.alloc_heap_new W2 _, b2.trans ((alloc_below W2 _).mono b2.size), hwb, by omega⟩
  have HOf := Lib.hid (s3.home 1 3 (l := [⟨7, 3⟩]) (n := 1) (by omega) rfl rfl)
  clear h2 b2 H1 s3 hwb hbl
  go_wp2_with fail
  rw [← hpx]
  clear hpx
  refine HOf.out.mono ?_
  rintro e W4 ⟨Ao, co, rfl, hIo, hno, s4⟩
  have H4 : Hid (Calls Try.prog 11 #[.pointer (some ⟨b, 0, none⟩), .int .i64 7] W4 fun x w' => x = .returned (.tuple #[.int .u32 3, .bool true]) ∧ St w b px #[.int .i64 2, .int .i64 3, .slice none 0 0] (sN 0) w' ∧ IsM w' (.slice Ao 1 co) [⟨7, 3⟩]) := by
    refine (s4.drop 7 (g := 3) (t := true) (s' := sN 0) rfl rfl rfl).mono ?_
    rintro x w' ⟨rfl, q1, q2⟩
    exact ⟨rfl, q1, hIo.kept q2 hno⟩
  clear hIo hno s4 HOf
  go_wp2_with fail
  refine H4.out.mono ?_
  rintro e W5 ⟨rfl, s5, hIo⟩
  have x0 : W5.cell? ⟨px, 0, none⟩ = some (.int .i64 2) := by rw [blk_cell s5.2.1]; rfl
  have x1 : W5.cell? ⟨px, 1, none⟩ = some (.int .i64 3) := by rw [blk_cell s5.2.1]; rfl
  have x2 : W5.cell? ⟨px, 2, none⟩ = some (.slice none 0 0) := by rw [blk_cell s5.2.1]; rfl
  have H5 : Hid (Calls Try.prog 15 #[.slice Ao 1 co, .slice (some ⟨W5.heap.size, 0, none⟩) 1 1] (W5.alloc (.cells #[.int .i64 7, .int .u32 3] 26)) fun e w' => e = .returned (.bool true) ∧ St w b px #[.int .i64 2, .int .i64 3, .slice none 0 0] (sN 0) w') := by
    refine (rsame_any (hIo.still (still_of (alloc_below W5 _))) (isM_one W5 ⟨7, 3⟩) (by decide)).mono ?_
    rintro e w' ⟨rfl, n, rfl⟩
    exact ⟨by simp, (s5.below (alloc_below W5 _)).below (bel_drewN (Below.refl _ _) n)⟩
  clear hIo s5 H4
  go_wp2_with fail
  refine H5.out.mono ?_
  rintro e W6 ⟨rfl, s6⟩
  have H6 := Lib.hid (s6.home 0 0 (l := []) (n := 0) (by omega) rfl rfl)
  clear s6 H5 x0 x1 x2
  go_wp2_with fail
  refine H6.out.mono ?_
  rintro e W7 ⟨A7, c7, rfl, _, _, s7⟩
  have H7 := Lib.hid (s7.take (-1) 1 (e := 2) (s' := sN 0) (by omega) rfl rfl)
  clear s7 H6
  go_wp2_with fail
  refine H7.out.mono ?_
  rintro e W8 ⟨rfl, s8⟩
  have H8 := Lib.hid (s8.take 1024 1 (e := 2) (s' := sN 0) (by omega) rfl rfl)
  clear s8 H7
  go_wp2_with fail
  refine H8.out.mono ?_
  rintro e W9 ⟨rfl, s9⟩
  have H9 := Lib.hid s9
  clear s9 H8
  go_wp2_with fail
  go_loopw [9] (fun u wr => ∃ k : Nat, k ≤ 15 ∧ u = .int .i64 (10 + (k : Int)) ∧ St w b px #[.int .i64 2, .int .i64 3, .slice none 0 0] (sN k) wr) (fun u _ => 25 - (intOf u).toNat)
  case atStart => exact ⟨0, by omega, rfl, H9.out⟩
  case round =>
    rename World => wr
    obtain ⟨k, hk, rfl, hs⟩ := hrel
    by_cases hlt : k < 15
    · have d1 : decide (10 + (k : Int) < 25) = true := decide_eq_true (by omega)
      have HT := Lib.hid (hs.take (10 + (k : Int)) 1 (by omega) (sN_e hlt) (sN_take hlt))
      have ew : IntKind.i64.wrap (10 + (k : Int) + 1) = 10 + ((k + 1 : Nat) : Int) := by rw [IntWalk.i64_in _ (by omega)]; omega
      clear hs
      go_wp2_with fail
      refine HT.out.mono ?_
      rintro e w9 ⟨rfl, s9⟩
      have HF := Lib.hid s9
      clear s9 HT
      go_wp2
      go_roundw
      case rel => exact ⟨k + 1, by omega, by first | rfl | (push_cast; rfl), HF.out⟩
      case measure => simp [intOf]; omega
    · obtain rfl : k = 15 := by omega
      have d1 : decide (10 + ((15 : Nat) : Int) < 25) = false := by decide
      have H10 := Lib.hid (hs.take 30 1 (e := 151) (s' := sN 15) (by omega) (by decide) (by decide))
      clear hs H9
      go_wp2_with fail
      refine H10.out.mono ?_
      rintro e V1 ⟨rfl, s1⟩
      have H11 := Lib.hid (s1.take 2 9 (e := 150) (s' := sN 15) (by omega) (by decide) (by decide))
      clear s1 H10
      go_wp2_with fail
      refine H11.out.mono ?_
      rintro e V2 ⟨rfl, s2⟩
      -- the first list
      have HL1 : Hid (Calls Try.prog 24 #[.slice (some ⟨V2.heap.size + 1, 0, none⟩) 1 1] ((V2.alloc (.cells #[.int .u8 1] 5)).alloc (.cells #[.int .i64 2, .int .i64 1, .slice (some ⟨V2.heap.size, 0, none⟩) 1 1] 49)) fun x w' => ∃ p, x = .returned (.tuple #[.pointer p, .int .i64 130]) ∧ St w b px #[.int .i64 2, .int .i64 3, .slice none 0 0] (sN 15) w') := by
        obtain ⟨j1, j2⟩ := heap2 V2 (.cells #[.int .u8 1] 5) (.cells #[.int .i64 2, .int .i64 1, .slice (some ⟨V2.heap.size, 0, none⟩) 1 1] 49)
        have hrs := rs_block (l := r1 (some ⟨V2.heap.size, 0, none⟩)) j2 rfl (fun j hj => by
          have hj1 : j < 1 := hj
          obtain rfl : j = 0 := by omega
          exact DOk.block j1 rfl (by simp))
        refine (((s2.below (alloc_below V2 _)).below (alloc_below (V2.alloc _) _)).load hrs (show 1 ≤ 1000 by omega) (n := 1) rfl (l1 _)).mono ?_
        rintro x w' ⟨p, rfl, _, q⟩
        exact ⟨p, rfl, q⟩
      clear s2 H11
      go_wp2_with fail
      refine HL1.out.mono ?_
      rintro e V3 ⟨p3, rfl, s3⟩
      -- the second list
      have HL2 : Hid (Calls Try.prog 24 #[.slice (some ⟨V3.heap.size, 0, none⟩) 2 2] (V3.alloc (.cells #[.int .i64 2, .int .i64 1, .slice none 0 0, .int .i64 2, .int .i64 1, .slice none 0 0] 49)) fun x w' => ∃ p, x = .returned (.tuple #[.pointer p, .int .i64 130]) ∧ St w b px #[.int .i64 2, .int .i64 3, .slice none 0 0] (sN 15) w') := by
        have j1 := World.alloc_heap_new V3 (.cells #[.int .i64 2, .int .i64 1, .slice none 0 0, .int .i64 2, .int .i64 1, .slice none 0 0] 49)
        have hrs := rs_block (l := r2) j1 rfl (fun j hj => by
          have hj1 : j < 2 := hj
          match j, hj1 with
          | 0, _ => exact DOk.none_ _ _ _ _
          | 1, _ => exact DOk.none_ _ _ _ _)
        refine ((s3.below (alloc_below V3 _)).load hrs (by decide) (n := 2) rfl l2').mono ?_
        rintro x w' ⟨p, rfl, _, q⟩
        exact ⟨p, rfl, q⟩
      clear s3 HL1
      go_wp2_with fail
      refine HL2.out.mono ?_
      rintro e V4 ⟨p4, rfl, s4⟩
      -- the third list
      have HL3 : Hid (Calls Try.prog 24 #[.slice (some ⟨V4.heap.size, 0, none⟩) 1 1] (V4.alloc (.cells #[.int .i64 2, .int .i64 (-1), .slice none 0 0] 49)) fun x w' => ∃ p, x = .returned (.tuple #[.pointer p, .int .i64 130]) ∧ St w b px #[.int .i64 2, .int .i64 3, .slice none 0 0] (sN 15) w') := by
        have j1 := World.alloc_heap_new V4 (.cells #[.int .i64 2, .int .i64 (-1), .slice none 0 0] 49)
        have hrs := rs_block (l := r3) j1 rfl (fun j hj => by
          have hj1 : j < 1 := hj
          obtain rfl : j = 0 := by omega
          exact DOk.none_ _ _ _ _)
        refine ((s4.below (alloc_below V4 _)).load hrs (by decide) (n := 1) rfl l3).mono ?_
        rintro x w' ⟨p, rfl, _, q⟩
        exact ⟨p, rfl, q⟩
      clear s4 HL2
      go_wp2_with fail
      refine HL3.out.mono ?_
      rintro e V5 ⟨p5, rfl, s5⟩
      -- the fourth list
      have HL4 : Hid (Calls Try.prog 24 #[.slice (some ⟨V5.heap.size + 1 + 1, 0, none⟩) 3 3] (((V5.alloc (.cells #[.int .u8 1] 5)).alloc (.cells #[.int .u8 0, .int .u8 0, .int .u8 0, .int .u8 9] 5)).alloc (.cells #[.int .i64 1, .int .i64 (-1), .slice (some ⟨V5.heap.size, 0, none⟩) 1 1, .int .i64 2, .int .i64 5, .slice (some ⟨V5.heap.size + 1, 0, none⟩) 4 4, .int .i64 2, .int .i64 6, .slice none 0 0] 49)) fun x w' => ∃ p, x = .returned (.tuple #[.pointer p, .int .i64 0]) ∧ CP w' p [⟨5, 9⟩] ∧ St w b px #[.int .i64 2, .int .i64 3, .slice none 0 0] (sN 15) w') := by
        obtain ⟨j1, j2, j3⟩ := heap3 V5 (.cells #[.int .u8 1] 5) (.cells #[.int .u8 0, .int .u8 0, .int .u8 0, .int .u8 9] 5) (.cells #[.int .i64 1, .int .i64 (-1), .slice (some ⟨V5.heap.size, 0, none⟩) 1 1, .int .i64 2, .int .i64 5, .slice (some ⟨V5.heap.size + 1, 0, none⟩) 4 4, .int .i64 2, .int .i64 6, .slice none 0 0] 49)
        have hrs := rs_block (l := r4 (some ⟨V5.heap.size, 0, none⟩) (some ⟨V5.heap.size + 1, 0, none⟩)) j3 rfl (fun j hj => by
          have hj1 : j < 3 := hj
          match j, hj1 with
          | 0, _ => exact DOk.block j1 rfl (by simp)
          | 1, _ => exact DOk.block j2 rfl (by simp)
          | 2, _ => exact DOk.none_ _ _ _ _)
        refine ((((s5.below (alloc_below V5 _)).below (alloc_below (V5.alloc _) _)).below (alloc_below ((V5.alloc _).alloc _) _)).load hrs (show 3 ≤ 1000 by omega) (n := 3) rfl (l4 _ _)).mono ?_
        rintro x w' ⟨p, rfl, q0, q⟩
        exact ⟨p, rfl, q0 rfl, q⟩
      clear s5 HL3
      go_wp2_with fail
      refine HL4.out.mono ?_
      rintro e V6 ⟨p6, rfl, c6, s6⟩
      have H6 : Hid (Calls Try.prog 19 #[.pointer p6] V6 fun x w' => ∃ A cap, x = .returned (.slice A 1 cap) ∧ IsM w' (.slice A 1 cap) [⟨5, 9⟩] ∧ St w b px #[.int .i64 2, .int .i64 3, .slice none 0 0] (sN 15) w') := by
        refine (all_any c6).mono ?_
        rintro x w' ⟨v, rfl, hr, hb⟩
        have hI := IsM.of_row hr
        obtain ⟨A, cap, rfl⟩ := row_isM hr
        exact ⟨A, cap, rfl, hI, s6.below hb⟩
      clear c6 s6 HL4
      go_wp2_with fail
      refine H6.out.mono ?_
      rintro e V7 ⟨A7', c7', rfl, hI7, s7⟩
      have H7 : Hid (Calls Try.prog 15 #[.slice A7' 1 c7', .slice (some ⟨V7.heap.size, 0, none⟩) 1 1] (V7.alloc (.cells #[.int .i64 5, .int .u32 9] 26)) fun e w' => e = .returned (.bool true) ∧ Below w.heap.size w w') := by
        refine (rsame_any (hI7.still (still_of (alloc_below V7 _))) (isM_one V7 ⟨5, 9⟩) (by decide)).mono ?_
        rintro e w' ⟨rfl, n, rfl⟩
        exact ⟨by simp, bel_drewN (s7.below (alloc_below V7 _)).2.2.1 n⟩
      clear hI7 s7 H6
      go_wp2_with fail
      refine H7.out.mono ?_
      rintro e V8 ⟨rfl, b8⟩
      -- calls on none
      have HNo : ∀ V, CP V none [] := fun V => .inl ⟨rfl, rfl⟩
      have HN := Lib.hid HNo
      have H8 := Lib.hid (drop_no (HNo V8) 1 rfl)
      have HB8 := Lib.hid b8
      clear b8 H7 HNo
      go_wp2_with fail
      refine H8.out.mono ?_
      rintro e V9 ⟨rfl, b9⟩
      have HB9 := Lib.hid (HB8.out.trans (b9.mono HB8.out.size))
      have H9 := Lib.hid (gen_any (HN.out V9) 1)
      clear b9 HB8 H8
      go_wp2_with fail
      refine H9.out.mono ?_
      rintro e Va ⟨rfl, b9⟩
      have HBa := Lib.hid (HB9.out.trans (b9.mono HB9.out.size))
      have Ha := Lib.hid (alive_any Va)
      have en : has [] 1 = false := rfl
      clear b9 HB9 H9
      go_wp2_with fail
      refine Ha.out.mono ?_
      rintro e Vb ⟨rfl, b9⟩
      have HBb := Lib.hid (HBa.out.trans (b9.mono HBa.out.size))
      have Hb := Lib.hid (take_nil (w := Vb) 1 1)
      clear b9 HBa Ha
      go_wp2_with fail
      refine Hb.out.mono ?_
      rintro e Vc ⟨rfl, rfl⟩
      have Hc := Lib.hid (all_any (HN.out Vc))
      clear Hb
      go_wp2_with fail
      refine Hc.out.mono ?_
      rintro e Vd ⟨v, rfl, hr, b9⟩
      obtain ⟨Ad, cd, rfl⟩ := row_isM hr
      have HBd := Lib.hid (HBb.out.trans (b9.mono HBb.out.size))
      have Hd := Lib.hid (home_any (HN.out Vd) (h := 0) (r := 1) (by omega))
      clear b9 hr HBb Hc
      go_wp2_with fail
      refine Hd.out.mono ?_
      rintro e Ve ⟨v, rfl, hr, b9⟩
      obtain ⟨Ae, ce, rfl⟩ := row_isM hr
      have HBe := Lib.hid (HBd.out.trans (b9.mono HBd.out.size))
      have He := Lib.hid (record_any (HN.out Ve) 1)
      have ez : (ofZ [] 0 1).length = 0 := rfl
      rw [ez]
      clear b9 hr HBd Hd ez
      go_wp2_with fail
      refine He.out.mono ?_
      rintro e Vf ⟨d, rfl, hd, b9⟩
      have : genO [] 1 = none := rfl
      rw [this] at hd
      cases hd
      have HF := Lib.hid (HR.out _ (HBe.out.trans (b9.mono HBe.out.size)))
      have hfd := fun w => field_d (.int .i64 2) (.int .i64 1) (.slice none 0 0) w
      clear b9 HBe He this
      go_wp2
      first | exact HF.out | (go_ret; exact HF.out)
end Go.Proofs.Ytijhkjegpcmjoaa
