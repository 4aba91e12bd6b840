/-
  PROVED HERE: the law GraphNames answers true: the error has its number, what is no edge or no size is refused, the chapter's graph tells what its examples say, and calls on no graph, and on one that nobody made, answer nothing.
  Conditions: none beyond the row's own (the law takes no argument).
-/
import Derived.Test.YtdhpphkkpjldfaaGL2
import Derived.Carry
import Derived.ProofKit
import Derived.OpenShut
namespace Go.Proofs.Ytdhpphkkpjldfaa
set_option maxRecDepth 100000
open Go Go.RowKit Gq
open Go.ChangeShapes Go.WideShapes Go.ChangeAt

theorem dist_no {w : World} (p : Option Addr) (a : Int) (HH : Hid (Calls Try.prog 30 #[.pointer p, .int .i64 a] w fun e w' => e = .returned (.bool false) ∧ w' = w)) :
    Calls Try.prog 16 #[.pointer p, .int .i64 a] w fun e w' => e = .returned (.slice none 0 0) ∧ w' = w := by
  go_enter Try.func16, Try.ntmps16
  go_wp2_with fail
  refine HH.out.mono ?_
  rintro e w' ⟨rfl, hw⟩
  obtain rfl := hw.symm
  go_wp2
  go_ret
  exact ⟨rfl, rfl⟩
theorem reach_no {w : World} (p : Option Addr) (a : Int) (HH : Hid (Calls Try.prog 30 #[.pointer p, .int .i64 a] w fun e w' => e = .returned (.bool false) ∧ w' = w)) :
    Calls Try.prog 20 #[.pointer p, .int .i64 a] w fun e w' => e = .returned (.slice none 0 0) ∧ w' = w := by
  go_enter Try.func20, Try.ntmps20
  go_wp2_with fail
  refine HH.out.mono ?_
  rintro e w' ⟨rfl, hw⟩
  obtain rfl := hw.symm
  go_wp2
  go_ret
  exact ⟨rfl, rfl⟩
theorem gat_zero {w : World} {z : Nat} {t : TypeId} (h : w.heap[z]? = some (.cells #[.slice none 0 0] t (0, 0))) : GAt w z [] (fun k => k = z) := by
  refine ⟨.slice none 0 0, [], none, by rw [blk_cell h]; rfl, blk_free h 0, ⟨World.ownsRow_nil _ _ _ _, rfl, fun i hi => by simp at hi⟩, by simp, rfl, fun g h => by simp at h, fun i hi => by simp at hi, fun k hk => by subst hk; exact blk_lt h⟩
theorem NewR.len {w w' : World} {l : List Nat} {e : Ending} (h : NewR w l e w') : ∃ A c, e = .returned (.slice A l.length c) ∧ Below w.heap.size w w' := by
  obtain ⟨v, rfl, h1, _, h3⟩ := h
  obtain ⟨A, c, rfl, _⟩ := h1.form
  exact ⟨A, c, rfl, h3⟩
theorem joi_none : joiF [] = [] := by
  have e : (joiK [] 0).joints = [] := rfl
  unfold joiF
  show (joiK [] 0).joints.mergeSort _ = []
  rw [e]
  simp
theorem str_none : strF (none_ 0) = [] := by decide +kernel
theorem some_add : addE someG 0 1 = someG := by decide
theorem some_row : row someG 0 = [1] := rfl
theorem some_back : row (bkF someG) 0 = [2] := by decide +kernel

set_option maxHeartbeats 4000000 in
theorem names_any (w : World) : Calls Try.prog 4 #[] w fun e w' => e = .returned (.bool true) ∧ Below w.heap.size w w' := by
  go_enter Try.func4, Try.ntmps4
  go_wp2_with fail
  refine (some_any w).mono ?_
  rintro e w1 ⟨b, rfl, S, hg, hS, hb1⟩
  have HG1 := Lib.hid hg
  have HB1 := Lib.hid hb1
  have HS := Lib.hid hS
  clear hg hb1 hS
  go_wp2_with fail
  refine (new_out _ (n := -1) (.inl (by omega))).mono ?_
  rintro e w' ⟨rfl, hw⟩
  obtain rfl := hw.symm
  go_wp2_with fail
  refine (new_out _ (n := 1025) (.inr (by omega))).mono ?_
  rintro e w' ⟨rfl, hw⟩
  obtain rfl := hw.symm
  go_wp2_with fail
  refine (new_any w1 (n := 0) (by omega)).mono ?_
  rintro e w2 ⟨h, rfl, Sh, hh, hSh, hb2⟩
  have HG2 := Lib.hid (HG1.out.below hb2 (Nat.le_refl _))
  have HB2 := Lib.hid (HB1.out.trans (hb2.mono HB1.out.size))
  have HH2 := Lib.hid hh
  have HD : Hid (∀ k, S k → ¬ Sh k) := fun k hk h2 => by have := HG1.out.lt k hk; have := hSh k h2; omega
  clear hh hSh hb2 HG1 HB1
  go_wp2_with fail
  refine (add_out HG2.out (a := 0) (x := 6) (by decide)).mono ?_
  rintro e w' ⟨rfl, hw⟩
  obtain rfl := hw.symm
  go_wp2_with fail
  refine (add_out HG2.out (a := -1) (x := 0) (by decide)).mono ?_
  rintro e w' ⟨rfl, hw⟩
  obtain rfl := hw.symm
  go_wp2_with fail
  refine (add_out HG2.out (a := 1) (x := 1) (by decide)).mono ?_
  rintro e w' ⟨rfl, hw⟩
  obtain rfl := hw.symm
  go_wp2_with fail
  refine (add_any HG2.out someG_ok (a := 0) (x := 1) (by decide) (by decide) (by decide)).mono ?_
  rintro e w3 ⟨rfl, S3, hg3, hS3, hk3⟩
  rw [some_add] at hg3
  have HG3 := Lib.hid hg3
  have HH3 := Lib.hid (HH2.out.kept hk3 (fun k hk h => HD.out k h hk))
  have HB3 : Hid (Below w.heap.size w w3) := HB2.out.trans (hk3.below HS.out HB2.out.size)
  clear hg3 hS3 hk3 HG2 HB2 HH2 HD HS
  go_wp2_with fail
  refine (out_any HG3.out someG_ok (a := 0) (by decide)).mono ?_
  rintro e w4 ⟨v4, rfl, hr4, _, hb4⟩
  rw [some_row] at hr4
  have HG4 := Lib.hid (HG3.out.below hb4 (Nat.le_refl _))
  have HH4 := Lib.hid (HH3.out.below hb4 (Nat.le_refl _))
  have HB4 := Lib.hid (HB3.out.trans (hb4.mono HB3.out.size))
  have HS4 := Lib.hid (same_lit (m := [1]) (t := 3) hr4.isL (by decide) (cs := #[.int .i64 1]) rfl 1 rfl (by decide))
  clear hr4 hb4 HG3 HH3 HB3
  go_wp2_with fail
  refine HS4.out.mono ?_
  rintro e w5 ⟨rfl, hs5⟩
  have HG5 := Lib.hid (HG4.out.still hs5)
  have HH5 := Lib.hid (HH4.out.still hs5)
  have HB5 : Hid (Below w.heap.size w w5) := HB4.out.trans (hs5.below (fun _ h => h.elim) HB4.out.size)
  clear hs5 HG4 HH4 HB4 HS4
  go_wp2_with fail
  refine (back_any HG5.out someG_ok).mono ?_
  rintro e w6 ⟨b6, rfl, S6, hg6, _, hb6⟩
  have HG6 := Lib.hid hg6
  have HH6 := Lib.hid (HH5.out.below hb6 (Nat.le_refl _))
  have HB6 := Lib.hid (HB5.out.trans (hb6.mono HB5.out.size))
  clear hg6 hb6 HG5 HH5 HB5
  go_wp2_with fail
  refine (out_any HG6.out (bkF_ok someG_ok) (a := 0) (by rw [bkF_length]; decide)).mono ?_
  rintro e w7 ⟨v7, rfl, hr7, _, hb7⟩
  rw [some_back] at hr7
  have HH7 := Lib.hid (HH6.out.below hb7 (Nat.le_refl _))
  have HB7 := Lib.hid (HB6.out.trans (hb7.mono HB6.out.size))
  have HS7 := Lib.hid (same_lit (m := [2]) (t := 3) hr7.isL (by decide) (cs := #[.int .i64 2]) rfl 1 rfl (by decide))
  clear hr7 hb7 HG6 HH6 HB6
  go_wp2_with fail
  refine HS7.out.mono ?_
  rintro e w8 ⟨rfl, hs8⟩
  have HH8 := Lib.hid (HH7.out.still hs8)
  have HB8 : Hid (Below w.heap.size w w8) := HB7.out.trans (hs8.below (fun _ h => h.elim) HB7.out.size)
  clear hs8 HH7 HB7 HS7
  go_wp2_with fail
  refine (len_any HH8.out).mono ?_
  rintro e w' ⟨rfl, hw⟩
  obtain rfl := hw.symm
  have e0 : ((none_ 0).length : Int) = 0 := by simp [none_]
  rw [e0]
  clear e0
  go_wp2_with fail
  refine (strong_any HH8.out (none_ok (by omega))).mono ?_
  intro e w9 hq
  rw [str_none] at hq
  obtain ⟨A9, c9, rfl, hb9⟩ := hq.len
  have HB9 := Lib.hid (HB8.out.trans (hb9.mono HB8.out.size))
  clear hq hb9 HH8 HB8
  have e0 : ([] : List Nat).length = 0 := rfl
  rw [e0]
  clear e0
  go_wp2_with fail
  have HZ : Hid (∀ t, (w9.alloc (.cells #[.slice none 0 0] t)).heap[w9.heap.size]? = some (.cells #[.slice none 0 0] t (0, 0))) := fun t => heap_alloc_new w9 _
  refine (alive_any _).mono ?_
  rintro e w10 ⟨rfl, hb10⟩
  have hz10 : GAt w10 w9.heap.size [] (fun k => k = w9.heap.size) := (gat_zero (HZ.out _)).below hb10 (Nat.le_refl _)
  have HZ10 := Lib.hid hz10
  have HB10 : Hid (Below w.heap.size w w10) := (HB9.out.alloc HB9.out.size _).trans (hb10.mono (by have := HB9.out.size; simp; omega))
  clear hz10 hb10 HZ HB9
  go_wp2_with fail
  refine (add_nil _ _ _).mono ?_
  rintro e w' ⟨rfl, hw⟩
  obtain rfl := hw.symm
  go_wp2_with fail
  refine (add_out HZ10.out (a := 0) (x := 1) (by decide)).mono ?_
  rintro e w' ⟨rfl, hw⟩
  obtain rfl := hw.symm
  go_wp2_with fail
  refine (gHas_nil _ _ _).mono ?_
  rintro e w' ⟨rfl, hw⟩
  obtain rfl := hw.symm
  go_wp2_with fail
  refine (len_nil _).mono ?_
  rintro e w' ⟨rfl, hw⟩
  obtain rfl := hw.symm
  go_wp2_with fail
  refine (out_nil _ _).mono ?_
  rintro e w' ⟨rfl, hw⟩
  obtain rfl := hw.symm
  go_wp2_with fail
  refine (dist_no _ _ (has_any HZ10.out 0)).mono ?_
  rintro e w' ⟨rfl, hw⟩
  obtain rfl := hw.symm
  go_wp2_with fail
  refine (reach_no _ _ (has_nil _ _)).mono ?_
  rintro e w' ⟨rfl, hw⟩
  obtain rfl := hw.symm
  go_wp2_with fail
  refine (strong_nil _).mono ?_
  intro e w11 hq
  obtain ⟨A11, c11, rfl, hb11⟩ := hq.len
  have HZ11 := Lib.hid (HZ10.out.below hb11 (Nat.le_refl _))
  have HB11 := Lib.hid (HB10.out.trans (hb11.mono HB10.out.size))
  clear hq hb11 HZ10 HB10
  have e0 : ([] : List Nat).length = 0 := rfl
  rw [e0]
  clear e0
  go_wp2_with fail
  refine (joints_any HZ11.out ok_nil).mono ?_
  intro e w12 hq
  rw [joi_none] at hq
  obtain ⟨A12, c12, rfl, hb12⟩ := hq.len
  have HB12 := Lib.hid (HB11.out.trans (hb12.mono HB11.out.size))
  clear hq hb12 HZ11 HB11
  have e0 : ([] : List Nat).length = 0 := rfl
  rw [e0]
  clear e0
  go_wp2_with fail
  refine (back_nil _).mono ?_
  rintro e w13 ⟨b13, rfl, S13, hg13, _, hb13⟩
  have HG13 := Lib.hid hg13
  have HB13 := Lib.hid (HB12.out.trans (hb13.mono HB12.out.size))
  clear hg13 hb13 HB12
  go_wp2_with fail
  refine (len_any HG13.out).mono ?_
  rintro e w' ⟨rfl, hw⟩
  obtain rfl := hw.symm
  have e0 : (([] : Gr).length : Int) = 0 := rfl
  rw [e0]
  clear e0
  go_wp2
  go_ret
  exact ⟨rfl, HB13.out⟩

theorem Try.ownNone : ownKnob Try.prog.godebug = none := by kernel_rfl

set_option maxRecDepth 100000 in
theorem graphNames_lifted (os : Os) (started : os.Started) (H : Type) (enc : TypeId × Value → H) :
    ReturnsInHanded {} Try.checked os 4 .any (Rows.graphNamesSpec.pre6 enc Try.prog Try.f4 Rows.graphNamesRow.domain false) (Rows.graphNamesSpec.post enc Try.prog Try.f4 false true false false) := by
  refine returnsInHanded_of_change (C := Try.checked) Try.ownNone started (by kernel_rfl) Try.func4
    (ChangeSpec.witness6 (enc := enc) (C := Try.checked) false ⟨#[], #[], []⟩ 8 (by kernel_rfl) (by kernel_rfl) (by kernel_rfl) (by kernel_rfl)) ?_
  intro W base args ds gs before hval0 hW hcnd _
  have hW' := hW
  obtain ⟨p, q, hA0, hV, rfl, hfz, hnd⟩ := hW
  have hA : DataW.TrodAll enc Try.prog W 0 (fun _ => true) true Try.f4.params.toList args.toList ds p := hA0
  rw [Try.params4] at hA
  obtain ⟨rfl, rfl, rfl⟩ := trodAll_none hA
  obtain ⟨rfl, rfl⟩ := trodVars_none hV
  clear hA0 hval0
  simp only [List.append_nil] at hW'
  refine (names_any W).mono fun e W' ⟨he, hg⟩ => ?_
  subst he
  exact ⟨_, rfl, _, _, _, [], [], [], hW', trodAll_cons_mk (shut_bool Try.underlying4 _) trodAll_mk0, trodAll_mk0, rfl, hg.frame _, fun h => by cases h⟩

theorem graphNames_holds : Rows.GraphNamesSaid :=
  OpenClaim.holds_of_wide 4 Try.f4 rfl rfl rfl rfl rfl rfl rfl ⟨rfl, rfl, rfl, rfl, rfl⟩ rfl rfl rfl rfl rfl (by kernel_rfl) Try.func4 (by kernel_rfl)
    (of_decide_eq_true (by kernel_rfl)) (by unfold Func.isWrapper; first | (rw [if_pos (by decide +kernel)]; kernel_rfl) | (rw [if_neg (by decide +kernel)]; exact ⟨rfl, rfl⟩))
    (fun os started H enc _ => graphNames_lifted os started H enc)
#print axioms graphNames_holds
end Go.Proofs.Ytdhpphkkpjldfaa
