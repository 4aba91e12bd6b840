/-
  Two lists of numbers; the chapter's first examples.
-/
import Derived.Test.YtcbgadjnheagmaaDoorWi6
namespace Go.Proofs.YtcbgadjnheagmaaDoor
set_option maxRecDepth 100000
set_option linter.unusedSimpArgs false
open Go Go.RowKit

abbrev Still (w w' : World) : Prop := Kept (fun _ => False) w w'
/-- A list of numbers. -/
def IsU (w : World) (v : Value) (l : List Nat) : Prop :=
  ∃ a cap, v = .slice a l.length cap ∧ (a = none → l = []) ∧ ∀ j, j < l.length → ∃ g, a = some ⟨g, 0, none⟩ ∧ w.cell? ⟨g, j, none⟩ = some (.int .u32 ((l.getD j 0 : Nat) : Int))
theorem IsU.kept {w w' : World} {v : Value} {l : List Nat} {X : Nat → Prop} (h : IsU w v l) (hk : Kept X w w') (hX : ∀ k, v.ownBlock = some k → ¬ X k) : IsU w' v l := by
  obtain ⟨a, c, rfl, h1, h2⟩ := h
  refine ⟨a, c, rfl, h1, fun j hj => ?_⟩
  obtain ⟨g, rfl, hc⟩ := h2 j hj
  exact ⟨g, rfl, hk.cell hc (hX g rfl)⟩
theorem IsU.of_row {w : World} {base : Nat} {v : Value} {l : List Nat} (h : w.ownsRow base 23 1 v l.length (l.map u32V)) : IsU w v l := by
  have h0 := h
  rcases h.2 with ⟨rfl, hl⟩ | ⟨g, cap, cur, rfl, h1, _⟩
  · have : l = [] := List.eq_nil_of_length_eq_zero (by omega)
    subst this
    exact ⟨none, 0, rfl, fun _ => rfl, fun j hj => by simp at hj⟩
  · refine ⟨some ⟨g, 0, none⟩, cap, rfl, (fun e => by cases e), fun j hj => ⟨g, rfl, ?_⟩⟩
    have := h0.cells (g := g) rfl j (u32V (l.getD j 0)) (by simp [List.getD, hj])
    have e : (⟨g, 0, none⟩ : Addr).add j = ⟨g, j, none⟩ := by unfold Addr.add; split <;> simp_all
    rw [e] at this
    exact this
theorem take_snoc_nat {l : List Nat} {k : Nat} (h : k < l.length) : l.take (k + 1) = l.take k ++ [l.getD k 0] := by
  rw [List.take_succ_eq_append_getElem h]; simp [List.getD, h]

set_option maxHeartbeats 1000000 in
theorem same_any {w : World} {va vb : Value} {la lb : List Nat} (ha : IsU w va la) (hb : IsU w vb lb) (h1 : la.length ≤ 100000) :
    Calls Tryd.prog 15 #[va, vb] w fun e w' => e = .returned (.bool (decide (la = lb))) ∧ Still w w' := by
  obtain ⟨A, ca, rfl, _, hca⟩ := ha
  obtain ⟨B, cb, rfl, _, hcb⟩ := hb
  by_cases hl : la.length = lb.length
  · have HA : Hid (∀ wr, Still w wr → ∀ j, j < la.length → ∃ g, A = some ⟨g, 0, none⟩ ∧ wr.cell? ⟨g, j, none⟩ = some (.int .u32 ((la.getD j 0 : Nat) : Int))) := by
      intro wr hk j hj
      obtain ⟨g, e, hc⟩ := hca j hj
      exact ⟨g, e, hk.cell hc id⟩
    have HB : Hid (∀ wr, Still w wr → ∀ j, j < la.length → ∃ g, B = some ⟨g, 0, none⟩ ∧ wr.cell? ⟨g, j, none⟩ = some (.int .u32 ((lb.getD j 0 : Nat) : Int))) := by
      intro wr hk j hj
      obtain ⟨g, e, hc⟩ := hcb j (by omega)
      exact ⟨g, e, hk.cell hc id⟩
    rw [← hl]
    have HL := Lib.hid hl
    clear hca hcb hl
    obtain ⟨n, hn⟩ : ∃ n, n = la.length := ⟨_, rfl⟩
    rw [← hn] at HA HB h1 ⊢
    have HN := Lib.hid hn
    clear hn
    go_enter Tryd.func15, Tryd.ntmps15
    go_wp2
    go_loopw [13] (fun u wr => ∃ k : Nat, k ≤ n ∧ u = .int .i64 (k : Int) ∧ la.take k = lb.take k ∧ Still w wr) (fun u _ => n - (intOf u).toNat)
    case atStart => exact ⟨0, Nat.zero_le _, rfl, by simp, Kept.refl _ _⟩
    case round =>
      obtain ⟨k, hk, rfl, he, hw⟩ := hrel
      have HE := Lib.hid he
      clear he
      by_cases hlt : k < n
      · obtain ⟨ga, rfl, fa⟩ := HA.out wr hw k hlt
        obtain ⟨gb, rfl, fb⟩ := HB.out wr hw k hlt
        have HW := Lib.hid hw
        have hla : k < la.length := by rw [← HN.out]; exact hlt
        have hlb : k < lb.length := by rw [← HL.out]; exact hla
        have HS : Hid (la.getD k 0 = lb.getD k 0 → la.take (k + 1) = lb.take (k + 1)) := by
          intro h
          rw [take_snoc_nat hla, take_snoc_nat hlb, HE.out, h]
        have HD : Hid (la.getD k 0 ≠ lb.getD k 0 → la ≠ lb) := by
          rintro h rfl
          exact h rfl
        clear hw hla hlb
        generalize la.getD k 0 = x at *
        generalize lb.getD k 0 = y at *
        have k0 : (0 : Int) ≤ (k : Int) := by omega
        have k1 : (k : Int) < (n : Int) := by omega
        by_cases hxy : x = y
        · have HT := Lib.hid (HS.out hxy)
          clear HS HD
          subst hxy
          go_wp2
          go_quiet (fail)
          go_wp2
          go_roundw
          case rel => exact ⟨k + 1, by omega, by go_num, HT.out, HW.out.drewN nq⟩
          case measure => simp [intOf]; omega
        · have HF := Lib.hid (HD.out hxy)
          have hb1 : ((x : Int) == (y : Int)) = false := by simp; omega
          have hb2 : ((x : Int) != (y : Int)) = true := by simp; omega
          have hb3 : (x == y) = false := by simpa using hxy
          have hb4 : (x != y) = true := by simpa using hxy
          clear HS HD
          go_wp2
          go_quiet (fail)
          go_wp2
          go_ret
          refine ⟨?_, HW.out.drewN nq⟩
          rw [decide_eq_false HF.out]
          rfl
      · obtain rfl : k = n := by omega
        have HQ : Hid (la = lb) := by
          have h1 := HE.out
          rw [List.take_of_length_le (by rw [← HN.out]; exact Nat.le_refl _), List.take_of_length_le (by rw [← HL.out, ← HN.out]; exact Nat.le_refl _)] at h1
          exact h1
        have HW := Lib.hid hw
        clear hw
        go_wp2
        go_ret
        exact ⟨by rw [decide_eq_true HQ.out]; rfl, HW.out⟩
  · have HF : Hid (la ≠ lb) := fun e => hl (by rw [e])
    generalize la.length = m at *
    generalize lb.length = n at *
    go_enter Tryd.func15, Tryd.ntmps15
    go_wp2
    go_ret
    exact ⟨by rw [decide_eq_false HF.out]; rfl, Kept.refl _ _⟩


/-- A list that was built of two. -/
theorem isU_two (w : World) (x y : Nat) : IsU (w.alloc (.cells #[.int .u32 (x : Int), .int .u32 (y : Int)] 23)) (.slice (some ⟨w.heap.size, 0, none⟩) 2 2) [x, y] := by
  have h := heap_alloc_new w (.cells #[.int .u32 (x : Int), .int .u32 (y : Int)] 23)
  refine ⟨some ⟨w.heap.size, 0, none⟩, 2, rfl, (fun e => by cases e), fun j hj => ⟨w.heap.size, rfl, ?_⟩⟩
  rw [blk_cell h]
  match j, hj with
  | 0, _ => rfl
  | 1, _ => rfl
/-- What a call left of a window. -/
theorem meet_at {w : World} {b l e n c l' e' : Nat} (h : WinAt w b l e) (hO : Wd.Ok l e) (hn : n ≤ 4294967295) (hT : Tab w) (hb : b ≠ 0) (hc : Wd.code l e n = c) (h1 : Wd.nl l e n = l') (h2 : Wd.ne l e n = e') :
    Calls Tryd.prog 8 #[.pointer (some ⟨b, 0, none⟩), .int .u32 (n : Nat)] w fun x w' => x = .returned (.int .i64 (c : Int)) ∧ WinAt w' b l' e' ∧ Kept (fun k => k = b) w w' := by
  refine (meet_any h hO hn hT hb).mono ?_
  rintro x w' ⟨rfl, h3, h4⟩
  subst hc h1 h2
  exact ⟨rfl, h3, h4⟩
theorem WinAt.kept {w w' : World} {b l e : Nat} {X : Nat → Prop} (h : WinAt w b l e) (hk : Kept X w w') (hX : ¬ X b) : WinAt w' b l e := (hk.block b (blk_lt h) hX).trans h
theorem still_of {w w' : World} (h : Below w.heap.size w w') : Still w w' := Kept.of_below h (Nat.le_refl _)

set_option maxHeartbeats 1000000 in
theorem alive_any {w : World} (hT : Tab w) : Calls Tryd.prog 19 #[] w fun x w' => x = .returned (.bool true) ∧ Below w.heap.size w w' := by
  have hlt := hT.lt
  have ok0 := Wd.ok_zero
  have ok1 : Wd.Ok 0 2 := by have := Wd.step_ok (n := 2) Wd.ok_zero (by omega); exact this
  have ok2 : Wd.Ok 0 10 := by have := Wd.step_ok (n := 4) ok1 (by omega); exact this
  obtain ⟨w1, hw1⟩ : ∃ w1, w.alloc (.cells #[.int .u32 0, .int .u64 0] 27) = w1 := ⟨_, rfl⟩
  have hk1 : Still w w1 := by rw [← hw1]; exact (Kept.refl _ w).alloc _
  have hW1 : WinAt w1 w.heap.size 0 0 := by rw [← hw1]; exact heap_alloc_new w _
  have hT1 := hT.kept hk1 id
  have M1 : Hid (Calls Tryd.prog 8 #[.pointer (some ⟨w.heap.size, 0, none⟩), .int .u32 2] w1 fun x w' => x = .returned (.int .i64 1) ∧ WinAt w' w.heap.size 0 2 ∧ Kept (fun k => k = w.heap.size) w1 w') :=
    meet_at (n := 2) (c := 1) (l' := 0) (e' := 2) hW1 ok0 (by omega) hT1 (by omega) (by decide +kernel) (by decide +kernel) (by decide +kernel)
  have HK1 := Lib.hid hk1
  have HLT := Lib.hid hlt
  have HT := Lib.hid hT
  clear hk1 hW1 hT1 hlt hT
  go_enter Tryd.func19, Tryd.ntmps19
  go_wp2_with fail
  refine M1.out.mono ?_
  rintro x w2 ⟨rfl, hW2, hk2⟩
  have hb2 : Kept (fun k => k = w.heap.size) w w2 := (HK1.out.mono (fun _ _ h => h.elim)).trans hk2 (fun _ _ h => h)
  have M2 : Hid (Calls Tryd.prog 8 #[.pointer (some ⟨w.heap.size, 0, none⟩), .int .u32 4] w2 fun x w' => x = .returned (.int .i64 1) ∧ WinAt w' w.heap.size 0 10 ∧ Kept (fun k => k = w.heap.size) w2 w') :=
    meet_at (n := 4) (c := 1) (l' := 0) (e' := 10) hW2 ok1 (by omega) (HT.out.kept hb2 (by have := HLT.out; omega)) (by have := HLT.out; omega) (by decide +kernel) (by decide +kernel) (by decide +kernel)
  clear hk2 hW2 hw1
  go_wp2_with fail
  refine M2.out.mono ?_
  rintro x w3 ⟨rfl, hW3, hk3⟩
  have hb3 : Kept (fun k => k = w.heap.size) w w3 := hb2.trans hk3 (fun _ _ h => h)
  have L3 : Hid (Calls Tryd.prog 14 #[.pointer (some ⟨w.heap.size, 0, none⟩)] w3 fun x w' => x = .returned (.int .u32 0) ∧ w' = w3) := last_any hW3
  clear hk3 M1 M2 hb2
  go_wp2_with fail
  refine L3.out.mono ?_
  rintro x w4 ⟨rfl, hw4⟩
  rw [hw4]
  clear hw4
  have E3 := Lib.hid (early_any hW3 ok2)
  have hE : Wd.early 0 10 = [2, 4] := by decide +kernel
  rw [hE] at E3
  go_wp2_with fail
  refine E3.out.mono ?_
  rintro x w4 ⟨v, rfl, ho, hb4⟩
  clear L3 E3 hE
  have ho' := isU_two w4 2 4
  have k4 := Kept.of_below (X := fun _ => False) hb4 (Nat.le_refl _)
  have HW4 := Lib.hid (hW3.kept k4 id)
  have HB4 := Lib.hid (hb3.trans (k4.mono (Y := fun k => k = w.heap.size) (fun _ _ h => h.elim)) (fun _ _ h => h))
  have S4 : Hid (Calls Tryd.prog 15 #[v, .slice (some ⟨w4.heap.size, 0, none⟩) 2 2] (w4.alloc (.cells #[.int .u32 2, .int .u32 4] 23)) fun e w' => e = .returned (.bool true) ∧ Still (w4.alloc (.cells #[.int .u32 2, .int .u32 4] 23)) w') :=
    (same_any ((IsU.of_row ho).kept ((Kept.refl (fun _ => False) w4).alloc _) (fun _ _ => id)) ho' (by decide)).mono (fun _ _ h => ⟨h.1, h.2⟩)
  clear hb4 ho ho' k4 hb3 hW3
  go_wp2_with fail
  refine S4.out.mono ?_
  rintro x w5 ⟨rfl, hk5⟩
  have k5 : Still w4 w5 := ((Kept.refl (fun _ => False) w4).alloc _).trans hk5 (fun _ _ h => h)
  have HW5 := HW4.out.kept k5 id
  have HB5 := Lib.hid (HB4.out.trans k5 (fun _ _ h => h.elim))
  clear hk5 k5 S4 HB4 HW4
  have E5 := Lib.hid (missing_any HW5 ok2)
  have hE : Wd.miss 0 10 = [1, 3] := by decide +kernel
  rw [hE] at E5
  go_wp2_with fail
  refine E5.out.mono ?_
  rintro x w6 ⟨v2, rfl, ho, hb6⟩
  have ho' := isU_two w6 1 3
  have k6 := Kept.of_below (X := fun _ => False) hb6 (Nat.le_refl _)
  have HB6 := Lib.hid (HB5.out.trans k6 (fun _ _ h => h.elim))
  have S6 : Hid (Calls Tryd.prog 15 #[v2, .slice (some ⟨w6.heap.size, 0, none⟩) 2 2] (w6.alloc (.cells #[.int .u32 1, .int .u32 3] 23)) fun e w' => e = .returned (.bool true) ∧ Still (w6.alloc (.cells #[.int .u32 1, .int .u32 3] 23)) w') :=
    (same_any ((IsU.of_row ho).kept ((Kept.refl (fun _ => False) w6).alloc _) (fun _ _ => id)) ho' (by decide)).mono (fun _ _ h => ⟨h.1, h.2⟩)
  clear hb6 ho ho' k6 HW5 HB5 E5 hE
  go_wp2_with fail
  refine S6.out.mono ?_
  rintro x w7 ⟨rfl, hk7⟩
  have HB7 := Lib.hid ((HB6.out.trans ((Kept.refl (fun _ => False) w6).alloc _) (fun _ _ h => h.elim)).trans hk7 (fun _ _ h => h.elim))
  clear hk7 S6
  go_wp2
  go_ret
  exact ⟨rfl, HB7.out.below (fun k h => by omega) (Nat.le_refl _)⟩
end Go.Proofs.YtcbgadjnheagmaaDoor
