/-
  The laws' helper alive: the chapter's examples.
-/
import Derived.Test.YtlcadkhhpnaofaaGL1
namespace Go.Proofs.Ytlcadkhhpnaofaa
set_option maxRecDepth 100000
open Go Go.RowKit Gq

theorem some_dist : distL someG 1 = [2, 0, 1, 2, 3, -1] := by decide +kernel
theorem some_reach : reachF someG 3 = [3, 4] := by
  have e : fsts (tells someG (List.replicate someG.length false) 3) = [3, 4] := by decide +kernel
  unfold reachF
  rw [e]
  simp [srtN, List.mergeSort]
theorem some_strong : strF someG = [0, 0, 0, 1, 2, 3] := by decide +kernel
theorem some_joints : joiF someG = [2, 3] := by
  have e : (joiK someG someG.length).joints = [3, 2] := by decide +kernel
  unfold joiF
  rw [e]
  simp [List.mergeSort]

theorem lit_isL (W : World) {cs : Array Value} {t : TypeId} {l : List Int} (h : cs = ic l) : IsL (W.alloc (.cells cs t)) (.slice (some ⟨W.heap.size, 0, none⟩) l.length l.length) l := by
  subst h
  exact isL_of (heap_alloc_new W _)
theorem NewL.isL {w w' : World} {l : List Int} {v : Value} (h : NewL w l (.returned v) w') : IsL w' v l ∧ Below w.heap.size w w' := by
  obtain ⟨g, n, e, hn, h1, h2, h3⟩ := h
  cases e
  rw [hn]
  exact ⟨isL_of h1, h3⟩
theorem NewR.isL {w w' : World} {l : List Nat} {v : Value} (h : NewR w l (.returned v) w') : IsL w' v (ints l) ∧ Below w.heap.size w w' := by
  obtain ⟨v', e, h1, h2, h3⟩ := h
  cases e
  exact ⟨h1.isL, h3⟩
/-- A new list told beside a literal. -/
theorem same_lit {W : World} {v : Value} {l m : List Int} (h : IsL W v l) (hl : l.length ≤ 100000) {cs : Array Value} {t : TypeId} (hc : cs = ic m) (k : Nat) (hk : k = m.length) (he : l = m) :
    Calls Try.prog 15 #[v, .slice (some ⟨W.heap.size, 0, none⟩) k k] (W.alloc (.cells cs t)) fun e w' => e = .returned (.bool true) ∧ Still W w' := by
  subst hk
  refine (same_any (h.still ((Kept.refl _ W).alloc _)) (lit_isL W hc) hl).mono ?_
  rintro e w' ⟨rfl, hs⟩
  exact ⟨by rw [decide_eq_true he], ((Kept.refl (fun _ => False) W).alloc _).trans hs (fun _ _ => id)⟩

set_option maxHeartbeats 1000000 in
theorem alive_any (w : World) : Calls Try.prog 23 #[] w fun e w' => e = .returned (.bool true) ∧ Below w.heap.size w w' := by
  go_enter Try.func23, Try.ntmps23
  go_wp2_with fail
  refine (some_any w).mono ?_
  rintro e w1 ⟨b, rfl, S, hg, hS, hb1⟩
  have HG1 := Lib.hid hg
  have HB1 := Lib.hid hb1
  clear hg hb1
  go_wp2_with fail
  refine (dist_any HG1.out someG_ok (a := 1) (by decide)).mono ?_
  rintro e w2 hq
  rw [some_dist] at hq
  obtain ⟨v2, rfl⟩ : ∃ v2, e = .returned v2 := by obtain ⟨g, n, e, _⟩ := hq; exact ⟨_, e⟩
  obtain ⟨hL2, hb2⟩ := NewL.isL hq
  have HG2 := Lib.hid (HG1.out.below hb2 (Nat.le_refl _))
  have HB2 := Lib.hid (HB1.out.trans (hb2.mono HB1.out.size))
  have HS2 := Lib.hid (same_lit (m := [2, 0, 1, 2, 3, -1]) (t := 3) hL2 (by decide) (cs := #[.int .i64 2, .int .i64 0, .int .i64 1, .int .i64 2, .int .i64 3, .int .i64 (-1)]) rfl 6 rfl (by decide))
  clear hq hL2 hb2 HG1 HB1
  go_wp2_with fail
  refine HS2.out.mono ?_
  rintro e w3 ⟨rfl, hs3⟩
  have HG3 := Lib.hid (HG2.out.still hs3)
  have HB3 : Hid (Below w.heap.size w w3) := HB2.out.trans (hs3.below (fun _ h => h.elim) HB2.out.size)
  clear hs3 HG2 HB2 HS2
  go_wp2_with fail
  refine (reach_any HG3.out someG_ok (a := 3) (by decide)).mono ?_
  rintro e w4 hq
  rw [some_reach] at hq
  obtain ⟨v4, rfl⟩ : ∃ v4, e = .returned v4 := by obtain ⟨g, e, _⟩ := hq; exact ⟨_, e⟩
  obtain ⟨hL4, hb4⟩ := NewR.isL hq
  have HG4 := Lib.hid (HG3.out.below hb4 (Nat.le_refl _))
  have HB4 := Lib.hid (HB3.out.trans (hb4.mono HB3.out.size))
  have HS4 := Lib.hid (same_lit (m := [3, 4]) (t := 3) hL4 (by decide) (cs := #[.int .i64 3, .int .i64 4]) rfl 2 rfl (by decide))
  clear hq hL4 hb4 HG3 HB3
  go_wp2_with fail
  refine HS4.out.mono ?_
  rintro e w5 ⟨rfl, hs5⟩
  have HG5 := Lib.hid (HG4.out.still hs5)
  have HB5 : Hid (Below w.heap.size w w5) := HB4.out.trans (hs5.below (fun _ h => h.elim) HB4.out.size)
  clear hs5 HG4 HB4 HS4
  go_wp2_with fail
  refine (strong_any HG5.out someG_ok).mono ?_
  rintro e w6 hq
  rw [some_strong] at hq
  obtain ⟨v6, rfl⟩ : ∃ v6, e = .returned v6 := by obtain ⟨g, e, _⟩ := hq; exact ⟨_, e⟩
  obtain ⟨hL6, hb6⟩ := NewR.isL hq
  have HG6 := Lib.hid (HG5.out.below hb6 (Nat.le_refl _))
  have HB6 := Lib.hid (HB5.out.trans (hb6.mono HB5.out.size))
  have HS6 := Lib.hid (same_lit (m := [0, 0, 0, 1, 2, 3]) (t := 3) hL6 (by decide) (cs := #[.int .i64 0, .int .i64 0, .int .i64 0, .int .i64 1, .int .i64 2, .int .i64 3]) rfl 6 rfl (by decide))
  clear hq hL6 hb6 HG5 HB5
  go_wp2_with fail
  refine HS6.out.mono ?_
  rintro e w7 ⟨rfl, hs7⟩
  have HG7 := Lib.hid (HG6.out.still hs7)
  have HB7 : Hid (Below w.heap.size w w7) := HB6.out.trans (hs7.below (fun _ h => h.elim) HB6.out.size)
  clear hs7 HG6 HB6 HS6
  go_wp2_with fail
  refine (joints_any HG7.out someG_ok).mono ?_
  rintro e w8 hq
  rw [some_joints] at hq
  obtain ⟨v8, rfl⟩ : ∃ v8, e = .returned v8 := by obtain ⟨g, e, _⟩ := hq; exact ⟨_, e⟩
  obtain ⟨hL8, hb8⟩ := NewR.isL hq
  have HB8 := Lib.hid (HB7.out.trans (hb8.mono HB7.out.size))
  have HS8 := Lib.hid (same_lit (m := [2, 3]) (t := 3) hL8 (by decide) (cs := #[.int .i64 2, .int .i64 3]) rfl 2 rfl (by decide))
  clear hq hL8 hb8 HG7 HB7
  go_wp2_with fail
  refine HS8.out.mono ?_
  rintro e w9 ⟨rfl, hs9⟩
  have HB9 : Hid (Below w.heap.size w w9) := HB8.out.trans (hs9.below (fun _ h => h.elim) HB8.out.size)
  clear hs9 HB8 HS8
  go_wp2
  go_ret
  exact ⟨rfl, HB9.out⟩
end Go.Proofs.Ytlcadkhhpnaofaa
