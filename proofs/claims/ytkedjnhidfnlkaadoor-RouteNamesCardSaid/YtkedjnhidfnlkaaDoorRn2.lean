/-
  The walk of the law RouteNames.
-/
import Derived.Test.YtkedjnhidfnlkaaDoorRn1
namespace Go.Proofs.YtkedjnhidfnlkaaDoor
set_option maxRecDepth 100000
set_option linter.unusedSimpArgs false
open Go Go.RowKit Rq

/-! None -/
theorem cells_none (w : World) : Calls Tryd.prog 28 #[.pointer none] w fun e w' => e = .returned (.int .i64 0) ∧ w = w' := by
  go_enter Tryd.func28, Tryd.ntmps28
  go_wp2
  go_ret
  exact ⟨rfl, rfl⟩
theorem has_none (w : World) : Calls Tryd.prog 59 #[.pointer none, .int .i64 0] w fun e w' => e = .returned (.bool false) ∧ w = w' := by
  go_enter Tryd.func59, Tryd.ntmps59
  go_wp2_with (with_reducible refine (cells_none _).mono ?_; rintro e w' ⟨rfl, rfl⟩)
  go_ret
  exact ⟨rfl, rfl⟩
theorem free_none (w : World) : Calls Tryd.prog 27 #[.pointer none, .int .i64 0] w fun e w' => e = .returned (.bool false) ∧ w = w' := by
  go_enter Tryd.func27, Tryd.ntmps27
  go_wp2_with (with_reducible refine (has_none _).mono ?_; rintro e w' ⟨rfl, rfl⟩)
  go_ret
  exact ⟨rfl, rfl⟩
theorem around_none (w : World) : Calls Tryd.prog 23 #[.pointer none, .int .i64 0, .slice none 0 0, .int .i64 1] w fun e w' => e = .returned (.slice none 0 0) ∧ w = w' := by
  go_enter Tryd.func23, Tryd.ntmps23
  go_wp2
  go_step3
  go_wp2_with (with_reducible refine (free_none _).mono ?_; rintro e w' ⟨rfl, rfl⟩)
  try rw [Exit.noGoto_ret]
  go_ret
  exact ⟨rfl, rfl⟩
theorem check_none (w : World) : Calls Tryd.prog 20 #[.pointer none, .slice none 0 0, .slice none 0 0] w fun e w' => e = .returned (.int .i64 1) ∧ w = w' := by
  go_enter Tryd.func20, Tryd.ntmps20
  go_wp2
  go_ret
  exact ⟨rfl, rfl⟩
theorem find_none (w : World) : Calls Tryd.prog 14 #[.pointer none, .int .i64 0, .int .i64 4, .slice none 0 0, .int .i64 99] w fun e w' => e = .returned (.tuple #[.slice none 0 0, .int .i64 1]) ∧ w = w' := by
  have HB := Lib.hid (begin_nil (w := w) (B := none) (n := 0) (cb := 0) (fr := 0) (to_ := 4))
  go_enter Tryd.func14, Tryd.ntmps14
  go_wp2_with (with_reducible refine HB.out.mono ?_; rintro e w' ⟨rfl, rfl⟩)
  go_ret2
  exact ⟨rfl, rfl⟩

section
variable {w0 w : World} {bm gm cm : Nat}
theorem ring_p1 (h : M1 w0 bm gm cm 3 3 ringM w) : Calls Tryd.prog 16 #[.pointer (some ⟨bm, 0, none⟩), .int .i64 0, .int .i64 8, .slice none 0 0] w fun e w' => e = .returned (.tuple #[.int .i64 4, .int .i64 0]) ∧ M1 w0 bm gm cm 3 3 ringM w' := by
  refine (m1_dist h (ints_nil _ _) (m := 0) rfl (by decide) ring_d1).mono ?_
  rintro e w' ⟨h1, h2, _⟩
  exact ⟨h1, h2⟩
theorem ring_p2 (h : M1 w0 bm gm cm 3 3 ringM w) : Calls Tryd.prog 16 #[.pointer (some ⟨bm, 0, none⟩), .int .i64 0, .int .i64 8, .slice (some ⟨w.heap.size, 0, none⟩) 1 1] (w.alloc (.cells #[.int .i64 8] 3)) fun e w' => e = .returned (.tuple #[.int .i64 0, .int .i64 40]) ∧ M1 w0 bm gm cm 3 3 ringM w' := by
  refine (m1_dist (h.alloc _) (ints_new [8] rfl) (m := 1) rfl (by decide) ring_d2).mono ?_
  rintro e w' ⟨h1, h2, _⟩
  exact ⟨h1, h2⟩
theorem ring_p3 (h : M1 w0 bm gm cm 3 3 ringM w) : Calls Tryd.prog 17 #[.pointer (some ⟨bm, 0, none⟩), .int .i64 0, .int .i64 8, .slice none 0 0] w fun e w' => e = .returned (.tuple #[.int .i64 8, .int .i64 0]) ∧ M1 w0 bm gm cm 3 3 ringM w' := by
  refine (m1_looks h (ints_nil _ _) (m := 0) rfl (by decide) ring_l1).mono ?_
  rintro e w' ⟨h1, h2, _⟩
  exact ⟨h1, h2⟩
theorem ring_near : ArL 3 3 ringM 0 1 [] [0, 1, 3] := by
  have h0 : outs 3 3 ringM 0 = [1, 3] := by decide +kernel
  have hf : freeB ringM 0 = true := by decide +kernel
  refine ⟨fun h => ?_, fun _ _ => ⟨by decide, fun x => ?_⟩⟩
  · rcases h with h | h
    · rw [hf] at h; cases h
    · omega
  · show x ∈ [0, 1, 3] ↔ ∃ n, n ≤ 1 ∧ Fw (outs 3 3 ringM) (banF []) 0 n x
    constructor
    · intro hx
      rcases (by simpa using hx : x = 0 ∨ x = 1 ∨ x = 3) with rfl | rfl | rfl
      · exact ⟨0, by omega, .base⟩
      · exact ⟨1, by omega, .step .base (by rw [h0]; simp) rfl⟩
      · exact ⟨1, by omega, .step .base (by rw [h0]; simp) rfl⟩
    · rintro ⟨n, hn, hw⟩
      cases hw with
      | base => simp
      | step h1 h2 _ =>
        cases h1 with
        | base =>
          rw [h0] at h2
          simp at h2
          rcases h2 with rfl | rfl <;> simp
        | step _ _ _ => omega
theorem ring_p4 (h : M1 w0 bm gm cm 3 3 ringM w) : Calls Tryd.prog 23 #[.pointer (some ⟨bm, 0, none⟩), .int .i64 0, .slice none 0 0, .int .i64 1] w fun e w' => ∃ a c, e = .returned (.slice a 3 c) ∧ (M1 w0 bm gm cm 3 3 ringM w' ∧ Lst w' (.slice a 3 c) [0, 1, 3]) := by
  refine (m1_around h (by decide) (ints_nil _ _) (m := 0) rfl (by decide) (by omega)).mono ?_
  rintro e w' ⟨a, c, l, rfl, ⟨h2, h3, _⟩, h4, _⟩
  obtain rfl := h4.one ring_near
  exact ⟨a, c, rfl, h2, h3.lst⟩
theorem ring_p5 (h : M1 w0 bm gm cm 3 3 ringM w) : Calls Tryd.prog 20 #[.pointer (some ⟨bm, 0, none⟩), .slice (some ⟨w.heap.size, 0, none⟩) 3 3, .slice none 0 0] (w.alloc (.cells #[.int .i64 0, .int .i64 1, .int .i64 4] 3)) fun e w' => e = .returned (.int .i64 2) ∧ M1 w0 bm gm cm 3 3 ringM w' := by
  have hlt := h.lt
  refine (m1_check (h.alloc _) (ints_new [0, 1, 4] rfl) (ints_nil _ _) (n := 3) (m := 0) rfl rfl (by decide) (by decide) (by decide) (fun _ a e => by cases e; show w.heap.size ≠ bm; omega) ring_c1).mono ?_
  rintro e w' ⟨h1, h2, _⟩
  exact ⟨h1, h2⟩
theorem ring_p6 (h : M1 w0 bm gm cm 3 3 ringM w) : Calls Tryd.prog 20 #[.pointer (some ⟨bm, 0, none⟩), .slice (some ⟨w.heap.size, 0, none⟩) 3 3, .slice (some ⟨w.heap.size + 1, 0, none⟩) 1 1] ((w.alloc (.cells #[.int .i64 0, .int .i64 1, .int .i64 2] 3)).alloc (.cells #[.int .i64 2] 3)) fun e w' => e = .returned (.int .i64 40) ∧ M1 w0 bm gm cm 3 3 ringM w' := by
  have hlt := h.lt
  have hi := ints_new (w := w.alloc (.cells #[.int .i64 0, .int .i64 1, .int .i64 2] 3)) (t := 3) [2] rfl
  rw [World.size_alloc] at hi
  refine (m1_check ((h.alloc _).alloc _) ((ints_new (w := w) (t := 3) [0, 1, 2] rfl).below ((Below.refl _ _).alloc (Nat.le_refl _) _) (Nat.le_refl _)) hi (n := 3) (m := 1) rfl rfl (by decide) (by decide) (by decide) (fun _ a e => by cases e; show w.heap.size ≠ bm; omega) ring_c2).mono ?_
  rintro e w' ⟨h1, h2, _⟩
  exact ⟨h1, h2⟩
theorem ring_p7 (h : M1 w0 bm gm cm 3 3 ringM w) : Calls Tryd.prog 20 #[.pointer (some ⟨bm, 0, none⟩), .slice none 0 0, .slice none 0 0] w fun e w' => e = .returned (.int .i64 2) ∧ M1 w0 bm gm cm 3 3 ringM w' := by
  refine (m1_check h (ints_nil _ _) (ints_nil _ _) (n := 0) (m := 0) rfl rfl (by decide) (by decide) (by decide) (fun h0 => by simp at h0) ring_c3).mono ?_
  rintro e w' ⟨h1, h2, _⟩
  exact ⟨h1, h2⟩
end

set_option maxHeartbeats 4000000 in
theorem rnames_any (w : World) (hw : Ways w) :
    Calls Tryd.prog 5 #[] w fun e w' => e = .returned (.bool true) ∧ Below w.heap.size w w' := by
  have HW := Lib.hid hw
  clear hw
  go_enter Tryd.func5, Tryd.ntmps5
  go_wp2_with (first
    | (go_at_call 25; (with_reducible refine (ring_any w HW.out).mono ?_); rintro e w1 ⟨b1, g1, c1, rfl, hm⟩; have H1 := Lib.hid hm; clear hm)
    | (go_at_call 14; (with_reducible refine (ring_q3 H1.out).mono ?_); rintro e w2 ⟨a2, k2, rfl, hm⟩; have H2 := Lib.hid hm.1; clear hm)
    | (go_at_call 16; (with_reducible refine (ring_p1 H2.out).mono ?_); rintro e w3 ⟨rfl, hm⟩; have H3 := Lib.hid hm; clear hm)
    | (go_at_call 17; (with_reducible refine (ring_p3 H3.out).mono ?_); rintro e w4 ⟨rfl, hm⟩; have H4 := Lib.hid hm; clear hm)
    | (go_at_call 14; (with_reducible refine (ring_q4 H4.out).mono ?_); rintro e w5 ⟨a5, k5, rfl, hm⟩; have H5 := Lib.hid hm.1; clear hm)
    | (go_at_call 14; (with_reducible refine (ring_q5 H5.out).mono ?_); rintro e w6 ⟨a6, k6, rfl, hm⟩; have H6 := Lib.hid hm.1; clear hm)
    | (go_at_call 14; (with_reducible refine (find_none w6).mono ?_); rintro e w' ⟨rfl, rfl⟩)
    | (go_at_call 16; (with_reducible refine (ring_p2 H6.out).mono ?_); rintro e w7 ⟨rfl, hm⟩; have H7 := Lib.hid hm; clear hm)
    | (go_at_call 14; (with_reducible refine (ring_q6 H7.out).mono ?_); rintro e w8 ⟨a8, k8, rfl, hm⟩; have H8 := Lib.hid hm; clear hm)
    | (go_at_call 26; (with_reducible refine (ralive_any w8 H8.out.1.em.ways).mono ?_); rintro e w9 ⟨rfl, hb⟩; have H9 : Hid (M1 w b1 g1 c1 3 3 ringM w9 ∧ Lst w9 (.slice a8 1 k8) [0]) := ⟨H8.out.1.below hb, H8.out.2.lst.below hb⟩; clear hb)
    | (go_at_call 18; (with_reducible refine (sameC H9.out.2).mono ?_); rintro e w10 ⟨rfl, hb⟩; have H10 : Hid (M1 w b1 g1 c1 3 3 ringM w10) := H9.out.1.below hb; clear hb)
    | (go_at_call 23; (with_reducible refine (ring_p4 H10.out).mono ?_); rintro e w11 ⟨a11, k11, rfl, hm⟩; have H11 := Lib.hid hm; clear hm)
    | (go_at_call 18; (with_reducible refine (sameD H11.out.2).mono ?_); rintro e w12 ⟨rfl, hb⟩; have H12 : Hid (M1 w b1 g1 c1 3 3 ringM w12) := H11.out.1.below hb; clear hb)
    | (go_at_call 20; (with_reducible refine (ring_p5 H12.out).mono ?_); rintro e w13 ⟨rfl, hm⟩; have H13 := Lib.hid hm; clear hm)
    | (go_at_call 20; (with_reducible refine (ring_p6 H13.out).mono ?_); rintro e w14 ⟨rfl, hm⟩; have H14 := Lib.hid hm; clear hm)
    | (go_at_call 20; (with_reducible refine (ring_p7 H14.out).mono ?_); rintro e w15 ⟨rfl, hm⟩; have H15 := Lib.hid hm; clear hm)
    | (go_at_call 20; (with_reducible refine (check_none w15).mono ?_); rintro e w' ⟨rfl, rfl⟩)
    | (go_at_call 23; (with_reducible refine (around_none w15).mono ?_); rintro e w' ⟨rfl, rfl⟩))
  go_ret
  exact ⟨rfl, H15.out.bl⟩
end Go.Proofs.YtkedjnhidfnlkaaDoor
