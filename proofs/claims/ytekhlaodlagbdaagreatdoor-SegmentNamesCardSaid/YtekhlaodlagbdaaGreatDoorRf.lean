/- Joined texts: Far, Reads, Rf. -/
import Derived.Test.YtekhlaodlagbdaaGreatDoorMeth
import Derived.Test.YtekhlaodlagbdaaGreatDoorW6

/-
  The walk of grid.Map's Far.
-/
namespace Go.Proofs.YtekhlaodlagbdaaGreatDoor
set_option maxRecDepth 100000
open Go.RowKit

/-- How far two numbers lie apart. -/
def apartZ (x y : Int) : Int := max (x - y) (y - x)

theorem apart_any (x y : Int) (hx : 0 ≤ x ∧ x ≤ 1000000) (hy : 0 ≤ y ∧ y ≤ 1000000) (w : World) :
    Calls Tryz.prog 83 #[.int .i64 x, .int .i64 y] w fun e w' => e = .returned (.int .i64 (apartZ x y)) ∧ w' = w := by
  have w1 : IntKind.i64.wrap (x - y) = x - y := IntWalk.i64_in _ (by omega)
  have w2 : IntKind.i64.wrap (y - x) = y - x := IntWalk.i64_in _ (by omega)
  unfold apartZ
  go_enter Tryz.func83, Tryz.ntmps83
  go_wp2
  go_ret
  exact ⟨rfl, rfl⟩

/-- How far two cells lie apart; -1: one of them is no cell. -/
def farZ (C N : Nat) (a x : Int) : Int := if (0 ≤ a ∧ a < (N : Int)) ∧ (0 ≤ x ∧ x < (N : Int)) then apartZ ((a.toNat / C : Nat) : Int) ((x.toNat / C : Nat) : Int) + apartZ ((a.toNat % C : Nat) : Int) ((x.toNat % C : Nat) : Int) else -1

set_option maxHeartbeats 1600000 in
theorem far_any {b g cap R C : Nat} {ms : List UInt8} {w : World} (a x : Int) (h : EM b g cap R C ms w) (hN0 : 0 < ms.length) :
    Calls Tryz.prog 47 #[.pointer (some ⟨b, 0, none⟩), .int .i64 a, .int .i64 x] w fun e w' => e = .returned (.int .i64 (farZ C ms.length a x)) ∧ ∃ n, w' = w.drewN n := by
  have hc2 := h.c2
  have hc1 := h.c1
  have hlen := h.len
  have hC := h.hC
  have hC2 := h.hC2
  clear h
  generalize ms.length = N at *
  have hz : ((N : Int) == 0) = false := by rw [beq_eq_false_iff_ne]; omega
  by_cases ha : 0 ≤ a ∧ a < (N : Int)
  · have hb : (decide (0 ≤ a) && decide (a < (N : Int))) = true := by simp [ha]
    by_cases hx : 0 ≤ x ∧ x < (N : Int)
    · have hb2 : (decide (0 ≤ x) && decide (x < (N : Int))) = true := by simp [hx]
      have hf : farZ C N a x = apartZ ((a.toNat / C : Nat) : Int) ((x.toNat / C : Nat) : Int) + apartZ ((a.toNat % C : Nat) : Int) ((x.toNat % C : Nat) : Int) := by unfold farZ; rw [if_pos ⟨ha, hx⟩]
      rw [hf]
      obtain ⟨k, rfl⟩ := Int.eq_ofNat_of_zero_le ha.1
      obtain ⟨l, rfl⟩ := Int.eq_ofNat_of_zero_le hx.1
      have a1 : k / C ≤ k := Nat.div_le_self _ _
      have a2 : k % C ≤ k := Nat.mod_le _ _
      have a3 : l / C ≤ l := Nat.div_le_self _ _
      have a4 : l % C ≤ l := Nat.mod_le _ _
      have q1 : (k : Int) / (C : Int) = ((k / C : Nat) : Int) := by omega
      have q2 : (k : Int).tdiv (C : Int) = ((k / C : Nat) : Int) := by rw [Int.tdiv_eq_ediv_of_nonneg (by omega)]; exact q1
      have q3 : (k : Int) % (C : Int) = ((k % C : Nat) : Int) := by omega
      have q4 : (k : Int).tmod (C : Int) = ((k % C : Nat) : Int) := by rw [Int.tmod_eq_emod_of_nonneg (by omega)]; exact q3
      have r1 : (l : Int) / (C : Int) = ((l / C : Nat) : Int) := by omega
      have r2 : (l : Int).tdiv (C : Int) = ((l / C : Nat) : Int) := by rw [Int.tdiv_eq_ediv_of_nonneg (by omega)]; exact r1
      have r3 : (l : Int) % (C : Int) = ((l % C : Nat) : Int) := by omega
      have r4 : (l : Int).tmod (C : Int) = ((l % C : Nat) : Int) := by rw [Int.tmod_eq_emod_of_nonneg (by omega)]; exact r3
      simp only [Int.toNat_natCast] at *
      generalize k / C = k1 at *
      generalize k % C = k2 at *
      generalize l / C = l1 at *
      generalize l % C = l2 at *
      have i3 : IntKind.i64.wrap (k1 : Int) = (k1 : Int) := IntWalk.i64_in _ (by omega)
      have i4 : IntKind.i64.wrap (k2 : Int) = (k2 : Int) := IntWalk.i64_in _ (by omega)
      have i6 : IntKind.i64.wrap (l1 : Int) = (l1 : Int) := IntWalk.i64_in _ (by omega)
      have i7 : IntKind.i64.wrap (l2 : Int) = (l2 : Int) := IntWalk.i64_in _ (by omega)
      have i5 : ((C : Int) == 0) = false := by rw [beq_eq_false_iff_ne]; omega
      have H1 : Hid (∀ w', Calls Tryz.prog 83 #[.int .i64 (k1 : Int), .int .i64 (l1 : Int)] w' fun e w'' => e = .returned (.int .i64 (apartZ k1 l1)) ∧ w'' = w') := fun w' => apart_any _ _ (by omega) (by omega) w'
      have H2 : Hid (∀ w', Calls Tryz.prog 83 #[.int .i64 (k2 : Int), .int .i64 (l2 : Int)] w' fun e w'' => e = .returned (.int .i64 (apartZ k2 l2)) ∧ w'' = w') := fun w' => apart_any _ _ (by omega) (by omega) w'
      have m1 : (0 ≤ apartZ k1 l1 ∧ apartZ k1 l1 ≤ 100000) := by unfold apartZ; omega
      have m2 : (0 ≤ apartZ k2 l2 ∧ apartZ k2 l2 ≤ 100000) := by unfold apartZ; omega
      have i8 : IntKind.i64.wrap (apartZ k1 l1 + apartZ k2 l2) = apartZ k1 l1 + apartZ k2 l2 := IntWalk.i64_in _ (by omega)
      generalize apartZ k1 l1 = z1 at *
      generalize apartZ k2 l2 = z2 at *
      clear ha hx hf
      go_enter Tryz.func47, Tryz.ntmps47
      go_wp2_with (first
        | (go_at_call 15; refine (cells_any _ _ _ _ _ hc2).mono ?_; rintro e w' ⟨rfl, rfl⟩)
        | (go_at_call 72; refine (has_any _ _ _ _ _ _ hc2).mono ?_; rintro e w' ⟨rfl, rfl⟩; first | rw [hb] | rw [hb2]))
      go_quiet ((go_at_call 83; first | with_reducible exact Calls.quiet_of_same (H1.out _) | with_reducible exact Calls.quiet_of_same (H2.out _)))
      go_wp2
      go_ret
      exact ⟨rfl, _, rfl⟩
    · have hb2 : (decide (0 ≤ x) && decide (x < (N : Int))) = false := by
        rw [Bool.eq_false_iff]; intro e; apply hx; simpa using e
      have hf : farZ C N a x = -1 := by unfold farZ; rw [if_neg (fun e => hx e.2)]
      rw [hf]
      clear ha hx hf
      go_enter Tryz.func47, Tryz.ntmps47
      go_wp2_with (first
        | (go_at_call 15; refine (cells_any _ _ _ _ _ hc2).mono ?_; rintro e w' ⟨rfl, rfl⟩)
        | (go_at_call 72; refine (has_any _ _ _ _ _ _ hc2).mono ?_; rintro e w' ⟨rfl, rfl⟩; first | rw [hb] | rw [hb2]))
      go_ret
      exact ⟨rfl, 0, rfl⟩
  · have hb : (decide (0 ≤ a) && decide (a < (N : Int))) = false := by
      rw [Bool.eq_false_iff]; intro e; apply ha; simpa using e
    have hf : farZ C N a x = -1 := by unfold farZ; rw [if_neg (fun e => ha e.1)]
    rw [hf]
    clear ha hf
    go_enter Tryz.func47, Tryz.ntmps47
    go_wp2_with (first
      | (go_at_call 15; refine (cells_any _ _ _ _ _ hc2).mono ?_; rintro e w' ⟨rfl, rfl⟩)
      | (go_at_call 72; refine (has_any _ _ _ _ _ _ hc2).mono ?_; rintro e w' ⟨rfl, rfl⟩; rw [hb]))
    go_ret
    exact ⟨rfl, 0, rfl⟩
end Go.Proofs.YtekhlaodlagbdaaGreatDoor

/-
  The walk of the law GridReads.
-/
namespace Go.Proofs.YtekhlaodlagbdaaGreatDoor
set_option maxRecDepth 100000
open Go.RowKit

theorem neq0 (c : UInt8) : ((c.toNat : Int) != 0) = (c != 0) := by
  have h : ∀ n : Fin 256, ((n.val : Int) != 0) = (UInt8.ofNat n.val != 0) := by decide +kernel
  have := h ⟨c.toNat, c.toNat_lt⟩
  simpa using this

theorem flat_ok {L : List (List UInt8)} (hg : Pure.Good L) {k : Nat} (hk : k < L.flatten.length) : Pure.okc (L.flatten.getD k 0) = true := by
  have : L.flatten.getD k 0 = L.flatten[k] := by simp only [List.getD, List.getElem?_eq_getElem hk, Option.getD_some]
  rw [this]
  obtain ⟨x, hx, hc⟩ := List.mem_flatten.1 (List.getElem_mem hk)
  exact hg.ok x hx _ hc

theorem freeB_kind {L : List (List UInt8)} (hg : Pure.Good L) (i : Int) : (kindB L.flatten i != 0 && kindB L.flatten i != 35) = freeB L.flatten i := by
  by_cases h : 0 ≤ i ∧ i < (L.flatten.length : Int)
  · have hk := flat_ok hg (k := i.toNat) (by omega)
    have h0 : (L.flatten.getD i.toNat 0 != 0) = true := by
      rw [bne_iff_ne]; intro e; rw [e] at hk; exact absurd hk (by decide)
    unfold kindB freeB
    rw [if_pos h, h0, decide_eq_true h.1, decide_eq_true h.2]
    rfl
  · have e1 : kindB L.flatten i = 0 := by unfold kindB; rw [if_neg h]
    have e2 : freeB L.flatten i = false := by
      unfold freeB
      by_cases h1 : 0 ≤ i
      · rw [decide_eq_false (fun e => h ⟨h1, e⟩)]; simp
      · rw [decide_eq_false h1]; rfl
    rw [e1, e2]; rfl

set_option maxHeartbeats 400000 in
theorem rfree_any {b g cap : Nat} {Q : List ByteArray} {w : World} (i : Int) (h : RefAt w b g cap Q) (hg : Pure.Good (lsts Q)) :
    Calls Tryz.prog 57 #[.pointer (some ⟨b, 0, none⟩), .int .i64 i] w fun e w' => e = .returned (.bool (freeB (lsts Q).flatten i)) ∧ ∃ n, w' = w.drewN n := by
  have HK : Hid (∀ w', RefAt w' b g cap Q → Calls Tryz.prog 91 #[.pointer (some ⟨b, 0, none⟩), .int .i64 i] w' fun e w'' => e = .returned (.int .u8 ((kindB (lsts Q).flatten i).toNat : Int)) ∧ ∃ n, w'' = w'.drewN n) := fun w' h => rkind_any i h hg
  have HR : Hid (RefAt w b g cap Q) := h
  have HF : Hid (((((kindB (lsts Q).flatten i).toNat : Int) != 0) && (((kindB (lsts Q).flatten i).toNat : Int) != 35)) = freeB (lsts Q).flatten i) := by
    show _ = _
    rw [neq0, neq35, freeB_kind hg]
  clear h hg
  generalize kindB (lsts Q).flatten i = c at HK HF
  generalize freeB (lsts Q).flatten i = f at HF ⊢
  go_enter Tryz.func57, Tryz.ntmps57
  go_wp2_with (go_at_call 91; (with_reducible refine (HK.out _ HR.out).mono ?_); rintro e w' ⟨rfl, n, rfl⟩)
  all_goals
    go_ret
    refine ⟨?_, _, rfl⟩
    have hf := HF.out
    simp_all
end Go.Proofs.YtekhlaodlagbdaaGreatDoor

/-
  The walks of the document's Far and Edge.
-/
namespace Go.Proofs.YtekhlaodlagbdaaGreatDoor
set_option maxRecDepth 100000
set_option linter.unusedSimpArgs false
open Go.RowKit

theorem kind_zero {L : List (List UInt8)} (hg : Pure.Good L) (i : Int) : (((kindB L.flatten i).toNat : Int) == 0) = !(decide (0 ≤ i) && decide (i < (L.flatten.length : Int))) := by
  by_cases h : 0 ≤ i ∧ i < (L.flatten.length : Int)
  · have hk := flat_ok hg (k := i.toNat) (by omega)
    have h0 : L.flatten.getD i.toNat 0 ≠ 0 := by
      intro e; rw [e] at hk; exact absurd hk (by decide)
    have e1 : kindB L.flatten i = L.flatten.getD i.toNat 0 := by unfold kindB; rw [if_pos h]
    rw [e1, decide_eq_true h.1, decide_eq_true h.2]
    have := neq0 (L.flatten.getD i.toNat 0)
    rw [show ((L.flatten.getD i.toNat 0) != 0) = true from by rw [bne_iff_ne]; exact h0] at this
    simpa [bne] using this
  · have e1 : kindB L.flatten i = 0 := by unfold kindB; rw [if_neg h]
    rw [e1]
    have : (decide (0 ≤ i) && decide (i < (L.flatten.length : Int))) = false := by
      rw [Bool.eq_false_iff]; intro e; apply h; simpa using e
    rw [this]; rfl

set_option maxHeartbeats 1600000 in
theorem rfar_any {b g cap : Nat} {Q : List ByteArray} {w : World} (a x : Int) (h : RefAt w b g cap Q) (hg : Pure.Good (lsts Q)) :
    Calls Tryz.prog 97 #[.pointer (some ⟨b, 0, none⟩), .int .i64 a, .int .i64 x] w fun e w' => e = .returned (.int .i64 (farZ (Pure.wid (lsts Q)) (lsts Q).flatten.length a x)) ∧ ∃ n, w' = w.drewN n := by
  have HR : Hid (RefAt w b g cap Q) := h
  have HK : Hid (∀ i w', RefAt w' b g cap Q → Calls Tryz.prog 91 #[.pointer (some ⟨b, 0, none⟩), .int .i64 i] w' fun e w'' => e = .returned (.int .u8 ((kindB (lsts Q).flatten i).toNat : Int)) ∧ ∃ n, w'' = w'.drewN n) := fun i w' h => rkind_any i h hg
  have HW : Hid (∀ w', RefAt w' b g cap Q → Calls Tryz.prog 98 #[.pointer (some ⟨b, 0, none⟩)] w' fun e w'' => e = .returned (.int .i64 (Pure.wid (lsts Q) : Int)) ∧ w'' = w') := fun w' h => rcols_any h hg
  have hza := kind_zero hg a
  have hzx := kind_zero hg x
  have hC := hg.lo
  have hC2 := hg.hi
  have hlen := hg.small
  clear h hg
  have HKa : Hid (∀ w', RefAt w' b g cap Q → Calls Tryz.prog 91 #[.pointer (some ⟨b, 0, none⟩), .int .i64 a] w' fun e w'' => e = .returned (.int .u8 ((kindB (lsts Q).flatten a).toNat : Int)) ∧ ∃ n, w'' = w'.drewN n) := HK.out a
  have HKx : Hid (∀ w', RefAt w' b g cap Q → Calls Tryz.prog 91 #[.pointer (some ⟨b, 0, none⟩), .int .i64 x] w' fun e w'' => e = .returned (.int .u8 ((kindB (lsts Q).flatten x).toNat : Int)) ∧ ∃ n, w'' = w'.drewN n) := HK.out x
  clear HK
  generalize ((kindB (lsts Q).flatten a).toNat : Int) = ka at *
  generalize ((kindB (lsts Q).flatten x).toNat : Int) = kx at *
  generalize Pure.wid (lsts Q) = C at *
  generalize (lsts Q).flatten.length = N at *
  by_cases ha : 0 ≤ a ∧ a < (N : Int)
  · have hb : (decide (0 ≤ a) && decide (a < (N : Int))) = true := by simp [ha]
    rw [hb, Bool.not_true] at hza
    by_cases hx : 0 ≤ x ∧ x < (N : Int)
    · have hb2 : (decide (0 ≤ x) && decide (x < (N : Int))) = true := by simp [hx]
      rw [hb2, Bool.not_true] at hzx
      have hf : farZ C N a x = apartZ ((a.toNat / C : Nat) : Int) ((x.toNat / C : Nat) : Int) + apartZ ((a.toNat % C : Nat) : Int) ((x.toNat % C : Nat) : Int) := by unfold farZ; rw [if_pos ⟨ha, hx⟩]
      rw [hf]
      obtain ⟨k, rfl⟩ := Int.eq_ofNat_of_zero_le ha.1
      obtain ⟨l, rfl⟩ := Int.eq_ofNat_of_zero_le hx.1
      have a1 : k / C ≤ k := Nat.div_le_self _ _
      have a2 : k % C ≤ k := Nat.mod_le _ _
      have a3 : l / C ≤ l := Nat.div_le_self _ _
      have a4 : l % C ≤ l := Nat.mod_le _ _
      have q1 : (k : Int) / (C : Int) = ((k / C : Nat) : Int) := by omega
      have q2 : (k : Int).tdiv (C : Int) = ((k / C : Nat) : Int) := by rw [Int.tdiv_eq_ediv_of_nonneg (by omega)]; exact q1
      have q3 : (k : Int) % (C : Int) = ((k % C : Nat) : Int) := by omega
      have q4 : (k : Int).tmod (C : Int) = ((k % C : Nat) : Int) := by rw [Int.tmod_eq_emod_of_nonneg (by omega)]; exact q3
      have r1 : (l : Int) / (C : Int) = ((l / C : Nat) : Int) := by omega
      have r2 : (l : Int).tdiv (C : Int) = ((l / C : Nat) : Int) := by rw [Int.tdiv_eq_ediv_of_nonneg (by omega)]; exact r1
      have r3 : (l : Int) % (C : Int) = ((l % C : Nat) : Int) := by omega
      have r4 : (l : Int).tmod (C : Int) = ((l % C : Nat) : Int) := by rw [Int.tmod_eq_emod_of_nonneg (by omega)]; exact r3
      simp only [Int.toNat_natCast] at *
      generalize k / C = k1 at *
      generalize k % C = k2 at *
      generalize l / C = l1 at *
      generalize l % C = l2 at *
      have i3 : IntKind.i64.wrap (k1 : Int) = (k1 : Int) := IntWalk.i64_in _ (by omega)
      have i4 : IntKind.i64.wrap (k2 : Int) = (k2 : Int) := IntWalk.i64_in _ (by omega)
      have i6 : IntKind.i64.wrap (l1 : Int) = (l1 : Int) := IntWalk.i64_in _ (by omega)
      have i7 : IntKind.i64.wrap (l2 : Int) = (l2 : Int) := IntWalk.i64_in _ (by omega)
      have i5 : ((C : Int) == 0) = false := by rw [beq_eq_false_iff_ne]; omega
      obtain ⟨d1, hd1⟩ : ∃ d : Int, (k1 : Int) - (l1 : Int) = d := ⟨_, rfl⟩
      obtain ⟨d2, hd2⟩ : ∃ d : Int, (k2 : Int) - (l2 : Int) = d := ⟨_, rfl⟩
      have hp1 : apartZ k1 l1 = if d1 < 0 then -d1 else d1 := by unfold apartZ; split <;> omega
      have hp2 : apartZ k2 l2 = if d2 < 0 then -d2 else d2 := by unfold apartZ; split <;> omega
      rw [hp1, hp2]
      have i8 : IntKind.i64.wrap d1 = d1 := IntWalk.i64_in _ (by omega)
      have i9 : IntKind.i64.wrap d2 = d2 := IntWalk.i64_in _ (by omega)
      have j8 : IntKind.i64.wrap (-d1) = -d1 := IntWalk.i64_in _ (by omega)
      have j9 : IntKind.i64.wrap (-d2) = -d2 := IntWalk.i64_in _ (by omega)
      have j1 : IntKind.i64.wrap (d1 + d2) = d1 + d2 := IntWalk.i64_in _ (by omega)
      have j2 : IntKind.i64.wrap (-d1 + d2) = -d1 + d2 := IntWalk.i64_in _ (by omega)
      have j3 : IntKind.i64.wrap (d1 + -d2) = d1 + -d2 := IntWalk.i64_in _ (by omega)
      have j4 : IntKind.i64.wrap (-d1 + -d2) = -d1 + -d2 := IntWalk.i64_in _ (by omega)
      clear ha hx hf hp1 hp2
      go_enter Tryz.func97, Tryz.ntmps97
      go_wp2_with (first
        | (go_at_call 91; (with_reducible refine (HKa.out _ HR.out).mono ?_); rintro e w' ⟨rfl, n, rfl⟩)
        | (go_at_call 91; (with_reducible refine (HKx.out _ (HR.out.drewN n)).mono ?_); rintro e w' ⟨rfl, n2, rfl⟩))
      have HR2 : Hid (RefAt (w.drewN (n + n2)) b g cap Q) := HR.out.drewN _
      have HX : Hid (∀ m, ∃ x, (w.drewN (n + n2)).drewN m = w.drewN x) := fun m => ⟨n + n2 + m, by rw [World.drewN_drewN]⟩
      generalize w.drewN (n + n2) = w2 at HR2 HX ⊢
      clear HKa HKx
      go_quiet ((go_at_call 98; with_reducible exact Calls.quiet_of_same (HW.out _ (HR2.out.drewN _))))
      go_wp2
      have HR3 : Hid (RefAt (w2.drewN nq) b g cap Q) := HR2.out.drewN _
      have HX3 : Hid (∀ m, ∃ x, (w2.drewN nq).drewN m = w.drewN x) := fun m => by
        obtain ⟨y, hy⟩ := HX.out (nq + m)
        exact ⟨y, by rw [World.drewN_drewN, hy]⟩
      generalize w2.drewN nq = w3 at HR3 HX3 ⊢
      clear HR2 HX
      go_quiet ((go_at_call 98; with_reducible exact Calls.quiet_of_same (HW.out _ (HR3.out.drewN _))))
      by_cases hn1 : d1 < 0
      all_goals by_cases hn2 : d2 < 0
      all_goals
        go_wp2
        go_ret
        exact ⟨by simp [hn1, hn2], HX3.out _⟩
    · have hb2 : (decide (0 ≤ x) && decide (x < (N : Int))) = false := by
        rw [Bool.eq_false_iff]; intro e; apply hx; simpa using e
      rw [hb2, Bool.not_false] at hzx
      have hf : farZ C N a x = -1 := by unfold farZ; rw [if_neg (fun e => hx e.2)]
      rw [hf]
      clear ha hx hf
      go_enter Tryz.func97, Tryz.ntmps97
      go_wp2_with (first
        | (go_at_call 91; (with_reducible refine (HKa.out _ HR.out).mono ?_); rintro e w' ⟨rfl, n, rfl⟩)
        | (go_at_call 91; (with_reducible refine (HKx.out _ (HR.out.drewN n)).mono ?_); rintro e w' ⟨rfl, n2, rfl⟩))
      go_ret
      exact ⟨rfl, n + n2, rfl⟩
  · have hb : (decide (0 ≤ a) && decide (a < (N : Int))) = false := by
      rw [Bool.eq_false_iff]; intro e; apply ha; simpa using e
    rw [hb, Bool.not_false] at hza
    have hf : farZ C N a x = -1 := by unfold farZ; rw [if_neg (fun e => ha e.1)]
    rw [hf]
    clear ha hf
    go_enter Tryz.func97, Tryz.ntmps97
    go_wp2_with (go_at_call 91; (with_reducible refine (HKa.out _ HR.out).mono ?_); rintro e w' ⟨rfl, n, rfl⟩)
    go_ret
    exact ⟨rfl, n, rfl⟩
end Go.Proofs.YtekhlaodlagbdaaGreatDoor
