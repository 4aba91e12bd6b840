/-
  Alarms: what is shaken, set, asked again, and rings.
-/
import Derived.Test.YtinihggcibghaaaA1
namespace Go.Proofs.Ytinihggcibghaaa
set_option maxRecDepth 100000
set_option linter.unusedSimpArgs false
open Go Go.RowKit

def shk (b c : Nat) (t : Int) (q : Nat) : Nat := dly b c t + q % (dly b c t / 2 + 1)
@[reducible] def alV (on : Bool) (a : Nat) (t : Int) : Value := .agg #[.bool on, .int .u64 (a : Nat), .int .i64 t]

theorem shaken_any (w : World) {b c : Nat} (t : Int) {q : Nat} (h : okR b c = true) :
    Calls Try.prog 30 #[ruV b c, .int .i64 t, .int .u64 (q : Nat)] w fun e w' => e = .returned (.int .u64 (shk b c t q : Nat)) ∧ Below w.heap.size w w' := by
  have HB := Lib.hid h
  have hrb : 1 ≤ b ∧ b ≤ c ∧ c ≤ 4294967296 := by simpa [okR] using h
  have hdc := dly_le b c t
  have HS : Hid (shk b c t q = dly b c t + q % (dly b c t / 2 + 1)) := rfl
  generalize hdd : dly b c t = d at *
  have HD := Lib.hid hdd
  generalize shk b c t q = s at *
  have h1 : d / 2 + 1 ≤ 4294967297 := by omega
  have h2 : q % (d / 2 + 1) < d / 2 + 1 := Nat.mod_lt _ (by omega)
  have hd2 : ((d / 2 : Nat) : Int) = (d : Int) / 2 := by omega
  have w1 : IntKind.u64.wrap ((d : Int) / 2) = ((d / 2 : Nat) : Int) := by rw [← hd2]; exact u64_in (by omega) (by omega)
  have w2 : IntKind.u64.wrap (((d / 2 : Nat) : Int) + 1) = ((d / 2 + 1 : Nat) : Int) := by rw [u64_in (by omega) (by omega)]; push_cast; rfl
  have w3 : IntKind.u64.wrap ((d : Int) + (q : Int) % ((d / 2 + 1 : Nat) : Int)) = ((d + q % (d / 2 + 1) : Nat) : Int) := by
    have : (q : Int) % ((d / 2 + 1 : Nat) : Int) = ((q % (d / 2 + 1) : Nat) : Int) := by push_cast; rfl
    rw [this, u64_in (by omega) (by omega)]; push_cast; rfl
  have hne : ¬ (((d / 2 + 1 : Nat) : Int) = 0) := by omega
  generalize hm : d / 2 + 1 = m at *
  generalize d / 2 = d2 at *
  clear h h1 h2 hrb hdc hdd hd2 hm
  go_enter Try.func30, Try.ntmps30
  go_wp2_with (refine (delay_any _ _ HB.out).mono ?_; rintro e w2 ⟨rfl, hb2⟩; rw [HD.out])
  go_ret
  refine ⟨?_, ((Below.refl _ w).alloc (Nat.le_refl _) _).trans (hb2.mono (by simp))⟩
  rw [HS.out]
  simp only [Array.getD, List.size_toArray, List.length_cons, List.length_nil]
  rfl

theorem start_any (w : World) {b c : Nat} {n : Nat} (h : okR b c = true) (hn : n ≤ topT) :
    Calls Try.prog 27 #[ruV b c, .int .u64 (n : Nat)] w fun e w' => e = .returned (alV true (beh n b) 0) ∧ Below w.heap.size w w' := by
  have HB := Lib.hid h
  have hrb : 1 ≤ b ∧ b ≤ c ∧ c ≤ 4294967296 := by simpa [okR] using h
  have HN := Lib.hid hn
  have HBT : Hid (b ≤ topT) := by show _ ≤ _; unfold topT; omega
  clear h hrb hn
  go_enter Try.func27, Try.ntmps27
  go_wp2_with (first
    | (refine (check_ok _ HB.out).mono ?_; rintro e w2 ⟨rfl, rfl⟩)
    | (refine (behind_any _ HN.out HBT.out).mono ?_; rintro e w2 ⟨rfl, rfl⟩))
  refine bodyPost_ret (v := alV true (beh n b) 0) (by simp [results, Try.results27, go_sem]) rfl ⟨rfl, ?_⟩
  exact (((Below.refl _ w).alloc (Nat.le_refl _) _).alloc (by simp) _).alloc (by simp only [World.size_alloc]; omega) _
theorem start_no (w : World) {b c : Nat} {n : Nat} (h : okR b c = false) :
    Calls Try.prog 27 #[ruV b c, .int .u64 (n : Nat)] w fun e w' => e = .returned (alV false 0 0) ∧ Below w.heap.size w w' := by
  have HB := Lib.hid h
  clear h
  go_enter Try.func27, Try.ntmps27
  go_wp2_with (refine (check_bad _ HB.out).mono ?_; rintro e w2 ⟨rfl, rfl⟩)
  refine bodyPost_ret (v := alV false 0 0) (by simp [results, Try.results27, go_sem]) rfl ⟨rfl, ?_⟩
  exact (((Below.refl _ w).alloc (Nat.le_refl _) _).alloc (by simp) _).alloc (by simp only [World.size_alloc]; omega) _

theorem bx_kept {w w3 : World} {A B C : Obj} {x y z : Value} {t : TypeId} (h : Below ((((w.alloc A).alloc B).alloc (.cells #[x, y, z] t)).alloc C).heap.size ((((w.alloc A).alloc B).alloc (.cells #[x, y, z] t)).alloc C) w3) :
    w3.heap[w.heap.size + 1 + 1]? = some (.cells #[x, y, z] t (0, 0)) := by
  refine (h.block _ (by simp only [World.size_alloc]; omega)).trans ?_
  rw [Below.heap_alloc _ _ _ (by simp only [World.size_alloc]; omega)]
  have := World.alloc_heap_new ((w.alloc A).alloc B) (.cells #[x, y, z] t)
  simpa only [World.size_alloc] using this
theorem two {w : World} {g : Nat} {a b : Value} {t : TypeId} (h : w.heap[g]? = some (.cells #[a, b] t (0, 0))) : w.cell? ⟨g, 0, none⟩ = some a ∧ w.cell? ⟨g, 1, none⟩ = some b :=
  ⟨by rw [blk_cell h]; rfl, by rw [blk_cell h]; rfl⟩
theorem three {w : World} {g : Nat} {a b c : Value} {t : TypeId} (h : w.heap[g]? = some (.cells #[a, b, c] t (0, 0))) :
    (w.cell? ⟨g, 0, none⟩ = some a ∧ w.cell? ⟨g, 1, none⟩ = some b ∧ w.cell? ⟨g, 2, none⟩ = some c) ∧ w.frozen? ⟨g, 0, none⟩ = false ∧ w.frozen? ⟨g, 1, none⟩ = false ∧ w.frozen? ⟨g, 2, none⟩ = false :=
  ⟨⟨by rw [blk_cell h]; rfl, by rw [blk_cell h]; rfl, by rw [blk_cell h]; rfl⟩, blk_free h 0, blk_free h 1, blk_free h 2⟩

/-- An alarm that rang in vain. -/
def agT (t : Int) : Int := min t 999 + 1
theorem again_any (w : World) {b c : Nat} {n a : Nat} {t : Int} (h : okR b c = true) (hn : n ≤ topT) (ht : -9223372036854775808 ≤ t) :
    Calls Try.prog 26 #[ruV b c, alV true a t, .int .u64 (n : Nat)] w fun e w' => e = .returned (alV true (beh n (dly b c (agT t))) (agT t)) ∧ Below w.heap.size w w' := by
  have HB := Lib.hid h
  have hrb : 1 ≤ b ∧ b ≤ c ∧ c ≤ 4294967296 := by simpa [okR] using h
  have HN := Lib.hid hn
  have HBT : Hid (dly b c (agT t) ≤ topT) := by
    have := dly_le b c (agT t)
    show _ ≤ _; unfold topT; omega
  have hw : IntKind.i64.wrap ((if (999 : Int) < t then 999 else t) + 1) = agT t := by
    rw [IntWalk.i64_in _ (by split <;> omega)]
    unfold agT
    split <;> omega
  have HW := Lib.hid hw
  generalize agT t = s at *
  clear h hrb hn ht
  go_enter Try.func26, Try.ntmps26
  go_wp2_with (first
    | (refine (check_ok _ HB.out).mono ?_; rintro e w2 ⟨rfl, rfl⟩)
    | (refine (delay_any _ _ HB.out).mono ?_; rintro e w3 ⟨rfl, hb3⟩
       have hx := bx_kept hb3
       obtain ⟨⟨c0, c1, c2⟩, z0, z1, z2⟩ := three hx
       have HX := Lib.hid hx
       have HB3 := Lib.hid hb3
       clear hx hb3)
    | (refine (behind_any _ HN.out HBT.out).mono ?_; rintro e w2 ⟨rfl, rfl⟩))
  all_goals
    have h3 := blk_set (blk_set (blk_set HX.out 0 (.bool true)) 1 (.int .u64 (beh n (dly b c s) : Nat))) 2 (.int .i64 s)
    obtain ⟨⟨q0, q1, q2⟩, _⟩ := three (show _ = some (Obj.cells #[.bool true, .int .u64 (beh n (dly b c s) : Nat), .int .i64 s] _ (0, 0)) from h3)
    refine bodyPost_ret (v := alV true (beh n (dly b c s)) s) (by simp only [results, Try.results26]; simp [go_sem, q0, q1, q2]) rfl ⟨rfl, ?_⟩
    have hb : Below w.heap.size w w2 := (((((Below.refl _ w).alloc (Nat.le_refl _) _).alloc (by simp) _).alloc (by simp only [World.size_alloc]; omega) _).alloc (by simp only [World.size_alloc]; omega) _).trans (HB3.out.mono (by simp only [World.size_alloc]; omega))
    exact ((hb.setCell (p := ⟨w.heap.size + 1 + 1, 0, none⟩) (by simp; omega) _).setCell (p := ⟨w.heap.size + 1 + 1, 1, none⟩) (by simp; omega) _).setCell (p := ⟨w.heap.size + 1 + 1, 2, none⟩) (by simp; omega) _
theorem again_off (w : World) {b c : Nat} {n a : Nat} {t : Int} (h : okR b c = true) :
    Calls Try.prog 26 #[ruV b c, alV false a t, .int .u64 (n : Nat)] w fun e w' => e = .returned (alV false 0 0) ∧ Below w.heap.size w w' := by
  have HB := Lib.hid h
  clear h
  go_enter Try.func26, Try.ntmps26
  go_wp2_with (refine (check_ok _ HB.out).mono ?_; rintro e w2 ⟨rfl, rfl⟩)
  refine bodyPost_ret (v := alV false 0 0) (by simp [results, Try.results26, go_sem]) rfl ⟨rfl, ?_⟩
  exact ((((Below.refl _ w).alloc (Nat.le_refl _) _).alloc (by simp) _).alloc (by simp only [World.size_alloc]; omega) _).alloc (by simp only [World.size_alloc]; omega) _

theorem rings_any (w : World) {b c : Nat} {n a : Nat} {t : Int} {on : Bool} (h : okR b c = true) :
    Calls Try.prog 31 #[ruV b c, alV on a t, .int .u64 (n : Nat)] w fun e w' => e = .returned (.bool (on && decide (a ≤ n))) ∧ Below w.heap.size w w' := by
  have HB := Lib.hid h
  clear h
  cases on
  · go_enter Try.func31, Try.ntmps31
    go_wp2_with (refine (check_ok _ HB.out).mono ?_; rintro e w2 ⟨rfl, rfl⟩)
    go_ret
    exact ⟨rfl, (((Below.refl _ w).alloc (Nat.le_refl _) _).alloc (by simp) _).alloc (by simp only [World.size_alloc]; omega) _⟩
  · go_enter Try.func31, Try.ntmps31
    go_wp2_with (refine (check_ok _ HB.out).mono ?_; rintro e w2 ⟨rfl, rfl⟩)
    go_ret
    exact ⟨rfl, (((Below.refl _ w).alloc (Nat.le_refl _) _).alloc (by simp) _).alloc (by simp only [World.size_alloc]; omega) _⟩

/-- The chapter's rule. -/
theorem few_any (w : World) : Calls Try.prog 25 #[] w fun e w' => e = .returned (ruV 3 20) ∧ Below w.heap.size w w' := by
  go_enter Try.func25, Try.ntmps25
  go_wp2
  exact bodyPost_ret (v := ruV 3 20) (by simp [results, Try.results25, go_sem]) rfl ⟨rfl, (Below.refl _ w).alloc (Nat.le_refl _) _⟩
theorem alive_any (w : World) : Calls Try.prog 28 #[] w fun e w' => e = .returned (.bool true) ∧ Below w.heap.size w w' := by
  have hk : okR 3 20 = true := by decide
  have HB := Lib.hid hk
  have HS : ∀ W : World, Calls Try.prog 27 #[.agg #[.int .u64 3, .int .u64 20], .int .u64 10] W fun e w' => e = .returned (.agg #[.bool true, .int .u64 13, .int .i64 0]) ∧ Below W.heap.size W w' :=
    fun W => start_any W (b := 3) (c := 20) (n := 10) hk (by decide)
  have HA : ∀ W : World, Calls Try.prog 26 #[.agg #[.int .u64 3, .int .u64 20], .agg #[.bool true, .int .u64 13, .int .i64 0], .int .u64 13] W fun e w' => e = .returned (.agg #[.bool true, .int .u64 19, .int .i64 1]) ∧ Below W.heap.size W w' :=
    fun W => again_any W (b := 3) (c := 20) (n := 13) (a := 13) (t := 0) hk (by decide) (by decide)
  have HD0 : ∀ W : World, Calls Try.prog 29 #[.agg #[.int .u64 3, .int .u64 20], .int .i64 0] W fun e w' => e = .returned (.int .u64 3) ∧ Below W.heap.size W w' := fun W => delay_any W (b := 3) (c := 20) 0 hk
  have HD2 : ∀ W : World, Calls Try.prog 29 #[.agg #[.int .u64 3, .int .u64 20], .int .i64 2] W fun e w' => e = .returned (.int .u64 12) ∧ Below W.heap.size W w' := fun W => delay_any W (b := 3) (c := 20) 2 hk
  have HD3 : ∀ W : World, Calls Try.prog 29 #[.agg #[.int .u64 3, .int .u64 20], .int .i64 3] W fun e w' => e = .returned (.int .u64 20) ∧ Below W.heap.size W w' := fun W => delay_any W (b := 3) (c := 20) 3 hk
  have GS := Lib.hid HS
  have GA := Lib.hid HA
  have G0 := Lib.hid HD0
  have G2 := Lib.hid HD2
  have G3 := Lib.hid HD3
  clear hk HS HA HD0 HD2 HD3
  go_enter Try.func28, Try.ntmps28
  go_wp2_with fail
  refine (few_any _).mono ?_
  rintro e w1 ⟨rfl, hb1⟩
  go_wp2_with fail
  have R1 := Lib.hid (World.alloc_heap_new w1 (.cells #[.int .u64 3, .int .u64 20] 65))
  have HB1 := Lib.hid hb1
  clear hb1
  refine (GS.out _).mono ?_
  rintro e w2 ⟨rfl, hb2⟩
  have R2 := Lib.hid ((Below.heap_alloc w2 (.cells #[.bool true, .int .u64 13, .int .i64 0] 62) _ (by have := hb2.size; simp at this; omega)).trans ((hb2.block _ (by simp)).trans R1.out))
  have H2 := Lib.hid (World.alloc_heap_new w2 (.cells #[.bool true, .int .u64 13, .int .i64 0] 62))
  obtain ⟨r0, r1⟩ := two R2.out
  have HB2 := Lib.hid (HB1.out.trans (((Below.refl _ w1).alloc (Nat.le_refl _) _).trans (hb2.mono (by simp)) |>.mono HB1.out.size))
  clear hb2
  go_wp2_with fail
  refine (GA.out _).mono ?_
  rintro e w3 ⟨rfl, hb3⟩
  clear r0 r1
  have hs3 := hb3.size
  have R3 := Lib.hid ((Below.heap_alloc w3 (.cells #[.bool true, .int .u64 19, .int .i64 1] 62) _ (by have := blk_lt R2.out; omega)).trans ((hb3.block _ (blk_lt R2.out)).trans R2.out))
  have H3 := Lib.hid ((Below.heap_alloc w3 (.cells #[.bool true, .int .u64 19, .int .i64 1] 62) _ (by have := blk_lt H2.out; omega)).trans ((hb3.block _ (blk_lt H2.out)).trans H2.out))
  have K3 := Lib.hid (World.alloc_heap_new w3 (.cells #[.bool true, .int .u64 19, .int .i64 1] 62))
  have HB3 := Lib.hid (HB2.out.trans (((Below.refl _ w2).alloc (Nat.le_refl _) _).trans (hb3.mono (by simp)) |>.mono HB2.out.size))
  obtain ⟨r0, r1⟩ := two R3.out
  clear hb3 hs3
  go_wp2_with fail
  refine (G0.out _).mono ?_
  rintro e w4 ⟨rfl, hb4⟩
  clear r0 r1
  have R4 := Lib.hid ((hb4.block _ (blk_lt R3.out)).trans R3.out)
  have H4 := Lib.hid ((hb4.block _ (blk_lt H3.out)).trans H3.out)
  have K4 := Lib.hid ((hb4.block _ (blk_lt K3.out)).trans K3.out)
  have HB4 := Lib.hid (HB3.out.trans (((Below.refl _ w3).alloc (Nat.le_refl _) _).trans (hb4.mono (by simp)) |>.mono HB3.out.size))
  obtain ⟨r0, r1⟩ := two R4.out
  clear hb4
  go_wp2_with fail
  refine (G2.out _).mono ?_
  rintro e w5 ⟨rfl, hb5⟩
  clear r0 r1
  have R5 := Lib.hid ((hb5.block _ (blk_lt R4.out)).trans R4.out)
  have H5 := Lib.hid ((hb5.block _ (blk_lt H4.out)).trans H4.out)
  have K5 := Lib.hid ((hb5.block _ (blk_lt K4.out)).trans K4.out)
  have HB5 := Lib.hid (HB4.out.trans (hb5.mono HB4.out.size))
  obtain ⟨r0, r1⟩ := two R5.out
  clear hb5
  go_wp2_with fail
  refine (G3.out _).mono ?_
  rintro e w6 ⟨rfl, hb6⟩
  clear r0 r1
  obtain ⟨⟨r0, r1, r2⟩, _⟩ := three ((hb6.block _ (blk_lt H5.out)).trans H5.out)
  obtain ⟨⟨s0, s1, s2⟩, _⟩ := three ((hb6.block _ (blk_lt K5.out)).trans K5.out)
  have HB6 := Lib.hid (HB5.out.trans (hb6.mono HB5.out.size))
  clear hb6
  go_wp2_with fail
  go_ret
  exact ⟨rfl, HB6.out⟩
end Go.Proofs.Ytinihggcibghaaa
