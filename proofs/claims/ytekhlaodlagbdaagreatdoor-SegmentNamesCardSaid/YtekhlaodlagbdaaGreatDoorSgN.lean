/-
  segment.Plan.Inside, of any two numbers; what SegmentInside asks.
-/
import Derived.Test.YtekhlaodlagbdaaGreatDoorSgX
namespace Go.Proofs.YtekhlaodlagbdaaGreatDoor
set_option maxRecDepth 100000
set_option linter.unusedSimpArgs false
open Go Go.RowKit

set_option maxHeartbeats 1000000 in
theorem pins_none {bm gm cm R C p : Nat} {ms : List UInt8} {st : Sg.Pl} {w : World} (hP : PlanS bm gm cm R C ms p st w) {a b : Int} (h : segZ ms.length st a < 0 ∨ segZ ms.length st a ≠ segZ ms.length st b) :
    Calls Tryz.prog 30 #[.pointer (some ⟨p, 0, none⟩), .int .i64 a, .int .i64 b] w fun e w' => e = .returned (.int .i64 (-1)) ∧ Below w.heap.size w w' := by
  have HSa : Hid (∀ V, Below w.heap.size w V → Calls Tryz.prog 23 #[.pointer (some ⟨p, 0, none⟩), .int .i64 a] V fun e w' => e = .returned (.int .i64 (segZ ms.length st a)) ∧ w' = V) := fun V hV => (pseg_any (hP.still hV) a rfl).mono fun _ _ h => ⟨h.1, h.2.symm⟩
  have HSb : Hid (∀ V, Below w.heap.size w V → Calls Tryz.prog 23 #[.pointer (some ⟨p, 0, none⟩), .int .i64 b] V fun e w' => e = .returned (.int .i64 (segZ ms.length st b)) ∧ w' = V) := fun V hV => (pseg_any (hP.still hV) b rfl).mono fun _ _ h => ⟨h.1, h.2.symm⟩
  clear hP
  have b0 : (w.alloc (.cells #[.int .i64 b] 3)).cell? ⟨w.heap.size, 0, none⟩ = some (.int .i64 b) := by rw [blk_cell (World.alloc_heap_new w _)]; rfl
  have HB : Hid (∀ n, Below w.heap.size w ((w.alloc (.cells #[.int .i64 b] 3)).drewN n)) := fun n => (((Kept.refl (fun _ => False) w).alloc _).drewN n).below (fun _ h => h.elim) (Nat.le_refl _)
  generalize segZ ms.length st a = sa at *
  generalize segZ ms.length st b = sb at *
  by_cases h0 : sa < 0
  · have d0 : decide (sa < 0) = true := decide_eq_true h0
    clear h h0
    go_enter Tryz.func30, Tryz.ntmps30
    go_wp2_with fail
    generalize w.alloc (.cells #[.int .i64 b] 3) = w1 at *
    go_quiet ((go_at_call 23; first | with_reducible exact Calls.quiet_of_same (HSa.out _ (HB.out _)) | with_reducible exact Calls.quiet_of_same (HSb.out _ (HB.out _))))
    go_wp2
    go_ret
    exact ⟨rfl, HB.out _⟩
  · have d0 : decide (sa < 0) = false := decide_eq_false h0
    have d1 : (sa != sb) = true := by
      rcases h with h | h
      · exact (h0 h).elim
      · simpa using h
    clear h h0
    go_enter Tryz.func30, Tryz.ntmps30
    go_wp2_with fail
    generalize w.alloc (.cells #[.int .i64 b] 3) = w1 at *
    go_quiet ((go_at_call 23; first | with_reducible exact Calls.quiet_of_same (HSa.out _ (HB.out _)) | with_reducible exact Calls.quiet_of_same (HSb.out _ (HB.out _))))
    go_wp2
    go_ret
    exact ⟨rfl, HB.out _⟩

/-- How far two cells are within their segment. -/
def insZ (R C : Nat) (ms : List UInt8) (st : Sg.Pl) (a b : Int) : Int :=
  if segZ ms.length st a < 0 ∨ segZ ms.length st a ≠ segZ ms.length st b then -1 else Sg.insF (edgN R C ms) (st.cells.getD (segZ ms.length st a).toNat []) a.toNat b
theorem Sg.mem_ord {N : Nat} {jn : Nat → List Nat} (hJ : Sg.Jn N jn) {a : Nat} (ha : a < N) {x : Nat} (h : x ∈ (Sg.ordF N jn a).1) : x = a ∨ (jn x).length = 2 := by
  by_cases h2 : (jn a).length = 2
  · rcases Sg.ord_two hJ ha h2 with ⟨q, n, e, hq, _⟩ | ⟨q, n, e, hq, _⟩
    · rw [e] at h
      obtain ⟨i, hi, rfl⟩ := Sg.mem_map_range.1 h
      exact .inr (hq.two i hi)
    · rw [e] at h
      obtain ⟨i, hi, rfl⟩ := Sg.mem_map_range.1 h
      exact .inr (hq.two i hi)
  · rw [Sg.ord_one h2] at h
    exact .inl (by simpa using h)
section
variable {bm gm cm R C p : Nat} {ms : List UInt8} {w W : World}
/-- A number's segment. -/
theorem seg_info (ho : SgOk R C ms) {c : Int} (h : 0 ≤ segZ ms.length (planF R C ms) c) : ∃ x s : Nat, c = (x : Int) ∧ x < ms.length ∧ segZ ms.length (planF R C ms) c = (s : Int) ∧ (planF R C ms).of.getD x 0 = (s : Int) ∧ s < (planF R C ms).cells.length ∧ x ∈ (planF R C ms).cells.getD s [] ∧ freeB ms (x : Int) = true := by
  obtain ⟨hI, _⟩ := plan_ok (ms := ms) ho.hC ho.hN
  have hJ := jnF_jn (ms := ms) ho.hC ho.hN
  by_cases hc : 0 ≤ c ∧ c < (ms.length : Int)
  · obtain ⟨x, rfl⟩ := Int.eq_ofNat_of_zero_le hc.1
    have e : segZ ms.length (planF R C ms) (x : Int) = (planF R C ms).of.getD x 0 := by unfold segZ; rw [if_pos hc, Int.toNat_natCast]
    rw [e] at h ⊢
    obtain ⟨s, hs⟩ := Int.eq_ofNat_of_zero_le h
    have hx : x < ms.length := by omega
    obtain ⟨h1, h2⟩ := ((hI.of x hx).2 s).1 hs
    refine ⟨x, s, rfl, hx, hs, hs, h1, h2, ?_⟩
    obtain ⟨a, ha, hfa, ea, _⟩ := hI.ord s h1
    have hm : x ∈ (Sg.ordF ms.length (jnF R C ms) a).1 := by rw [ea]; exact h2
    rcases Sg.mem_ord hJ ha hm with rfl | h3
    · exact hfa
    · have h4 := (Sg.two_mem h3).2 (.inl rfl)
      rcases (jnF_mem.1 h4).2 with h5 | h5
      · exact (out_facts ho.hC ho.hN (out_from h5) h5).2.2.1
      · exact (out_facts ho.hC ho.hN (out_from h5) h5).2.2.2.1
  · unfold segZ at h
    rw [if_neg hc] at h
    omega
theorem m2_ins (ho : SgOk R C ms) (h : M2 w bm gm cm R C ms p (planF R C ms) W) (a b : Int) {v : Int} (hv : insZ R C ms (planF R C ms) a b = v) : Calls Tryz.prog 30 #[.pointer (some ⟨p, 0, none⟩), .int .i64 a, .int .i64 b] W fun e w' => e = .returned (.int .i64 v) ∧ M2 w bm gm cm R C ms p (planF R C ms) w' ∧ Below W.heap.size W w' := by
  subst hv
  by_cases hn : segZ ms.length (planF R C ms) a < 0 ∨ segZ ms.length (planF R C ms) a ≠ segZ ms.length (planF R C ms) b
  · unfold insZ
    rw [if_pos hn]
    exact (pins_none h.pl hn).mono fun _ _ h' => ⟨h'.1, h.below h'.2, h'.2⟩
  · have h0 : 0 ≤ segZ ms.length (planF R C ms) a := by
      rcases (by omega : segZ ms.length (planF R C ms) a < 0 ∨ 0 ≤ segZ ms.length (planF R C ms) a) with h1 | h1
      · exact (hn (.inl h1)).elim
      · exact h1
    have he : segZ ms.length (planF R C ms) a = segZ ms.length (planF R C ms) b := Classical.byContradiction fun h1 => hn (.inr h1)
    obtain ⟨x, s, rfl, hx, e1, hox, hs, hm, _⟩ := seg_info ho h0
    obtain ⟨y, s', rfl, hy, e2, hoy, _, _, _⟩ := seg_info ho (c := b) (by omega)
    obtain rfl : s' = s := by omega
    unfold insZ
    rw [if_neg hn, e1, Int.toNat_natCast, Int.toNat_natCast]
    exact (pins_same h.pl hx hy hs hox hoy hm (seg_len ho hs)).mono fun _ _ h' => ⟨h'.1, h.below h'.2, h'.2⟩
theorem m2_free (h : M2 w bm gm cm R C ms p (planF R C ms) W) (i : Int) {v : Bool} (hv : freeB ms i = v) : Calls Tryz.prog 48 #[.pointer (some ⟨bm, 0, none⟩), .int .i64 i] W fun e w' => e = .returned (.bool v) ∧ W = w' := by
  subst hv
  exact free_any bm gm cm ms i W h.pl.em.c2 (fun j hj => h.pl.em.mark j hj)
theorem m2_far (ho : SgOk R C ms) (h : M2 w bm gm cm R C ms p (planF R C ms) W) (a b : Int) : Calls Tryz.prog 47 #[.pointer (some ⟨bm, 0, none⟩), .int .i64 a, .int .i64 b] W fun e w' => e = .returned (.int .i64 (farZ C ms.length a b)) ∧ M2 w bm gm cm R C ms p (planF R C ms) w' ∧ Below W.heap.size W w' := by
  refine (far_any a b h.pl.em ho.pos).mono ?_
  rintro e w' ⟨rfl, n, rfl⟩
  have hb : Below W.heap.size W (W.drewN n) := ⟨rfl, rfl, rfl, Nat.le_refl _, fun _ _ => rfl⟩
  exact ⟨rfl, h.below hb, hb⟩
theorem m2_next (h : M2 w bm gm cm R C ms p (planF R C ms) W) {k : Nat} (hk : k < ms.length) {n : Nat} (hn : n = (outs R C ms k).length) : Calls Tryz.prog 49 #[.pointer (some ⟨bm, 0, none⟩), .int .i64 (k : Int)] W fun e w' => ∃ a c, e = .returned (.slice a n c) ∧ M2 w bm gm cm R C ms p (planF R C ms) w' ∧ Lst w' (.slice a n c) (outs R C ms k) ∧ Below W.heap.size W w' := by
  subst hn
  have e : nextZ R C ms (k : Int) = outs R C ms k := by unfold nextZ; rw [if_pos (by omega), Int.toNat_natCast]
  refine (next_y (k : Int) (by omega) h.pl.em).mono ?_
  rw [e]
  rintro e w' ⟨v, B, rfl, hx, _, _, _, ho⟩
  have hb := hx.below h.pl.done
  obtain ⟨a, c, rfl⟩ := row_slice ho
  exact ⟨a, c, rfl, h.below hb, lst_row ho, hb⟩
theorem ins_self_iff (ho : SgOk R C ms) (x : Int) : (insZ R C ms (planF R C ms) x x == 0) = freeB ms x := by
  rcases (by omega : segZ ms.length (planF R C ms) x < 0 ∨ 0 ≤ segZ ms.length (planF R C ms) x) with h | h
  · unfold insZ
    rw [if_pos (.inl h)]
    cases hf : freeB ms x with
    | false => rfl
    | true =>
      exfalso
      by_cases hc : 0 ≤ x ∧ x < (ms.length : Int)
      · obtain ⟨k, rfl⟩ := Int.eq_ofNat_of_zero_le hc.1
        have := (plan_ok (ms := ms) ho.hC ho.hN).2 k (by omega) hf
        unfold segZ at h
        rw [if_pos hc, Int.toNat_natCast] at h
        omega
      · unfold freeB at hf
        simp only [Bool.and_eq_true, decide_eq_true_eq] at hf
        exact hc hf.1
  · obtain ⟨k, s, rfl, hk, e1, _, hs, hm, hf⟩ := seg_info ho h
    unfold insZ
    rw [if_neg (by rintro (h1 | h1) <;> omega), e1, Int.toNat_natCast, Int.toNat_natCast, Sg.ins_self hm, hf]
    rfl
theorem edgN_out {a b : Nat} (h : edgN R C ms a b = true) : b ∈ outs R C ms a := by
  unfold edgN nextZ at h
  by_cases ha : (0 : Int) ≤ (a : Int) ∧ (a : Int) < (ms.length : Int)
  · rw [if_pos ha, Int.toNat_natCast, List.any_eq_true] at h
    obtain ⟨u, hu, e⟩ := h
    have : u = b := by have : (u : Int) = (b : Int) := by simpa using e
                       omega
    exact this ▸ hu
  · rw [if_neg ha] at h
    cases h
theorem out_edgN {a b : Nat} (h : b ∈ outs R C ms a) : edgN R C ms a b = true := by
  have ha := out_from h
  unfold edgN nextZ
  rw [if_pos (by omega), Int.toNat_natCast, List.any_eq_true]
  exact ⟨b, h, by simp⟩
/-- What the law asks of a cell's segment. -/
theorem ins_facts (ho : SgOk R C ms) {x y : Int} (h : 0 ≤ insZ R C ms (planF R C ms) x y) :
    ∃ a b s : Nat, x = (a : Int) ∧ y = (b : Int) ∧ a < ms.length ∧ b < ms.length ∧ (planF R C ms).of.getD a 0 = (s : Int) ∧ (planF R C ms).of.getD b 0 = (s : Int) ∧ s < (planF R C ms).cells.length ∧
      farZ C ms.length x y ≤ insZ R C ms (planF R C ms) x y ∧ insZ R C ms (planF R C ms) x y < (((planF R C ms).cells.getD s []).length : Int) ∧
      ∀ c ∈ outs R C ms b, c < ms.length ∧ ((planF R C ms).of.getD c 0 = (s : Int) → 0 ≤ insZ R C ms (planF R C ms) x (c : Int) ∧ insZ R C ms (planF R C ms) x (c : Int) ≤ insZ R C ms (planF R C ms) x y + 1) := by
  by_cases hn : segZ ms.length (planF R C ms) x < 0 ∨ segZ ms.length (planF R C ms) x ≠ segZ ms.length (planF R C ms) y
  · unfold insZ at h
    rw [if_pos hn] at h
    omega
  have h0 : 0 ≤ segZ ms.length (planF R C ms) x := by
    rcases (by omega : segZ ms.length (planF R C ms) x < 0 ∨ 0 ≤ segZ ms.length (planF R C ms) x) with h1 | h1
    · exact (hn (.inl h1)).elim
    · exact h1
  have he : segZ ms.length (planF R C ms) x = segZ ms.length (planF R C ms) y := Classical.byContradiction fun h1 => hn (.inr h1)
  obtain ⟨a, s, rfl, ha, e1, hoa, hs, hma, hfa⟩ := seg_info ho h0
  obtain ⟨b, s', rfl, hb, e2, hob, _, hmb, _⟩ := seg_info ho (c := y) (by omega)
  obtain rfl : s' = s := by omega
  obtain ⟨hI, _⟩ := plan_ok (ms := ms) ho.hC ho.hN
  have hJ := jnF_jn (ms := ms) ho.hC ho.hN
  have hz : ∀ c : Nat, c < ms.length → (planF R C ms).of.getD c 0 = (s' : Int) → insZ R C ms (planF R C ms) (a : Int) (c : Int) = Sg.insF (edgN R C ms) ((planF R C ms).cells.getD s' []) a (c : Int) := fun c hc hoc => by
    have e3 : segZ ms.length (planF R C ms) (c : Int) = (s' : Int) := by unfold segZ; rw [if_pos (by omega), Int.toNat_natCast, hoc]
    unfold insZ
    rw [if_neg (by rw [e3]; rintro (h1 | h1) <;> omega), e1, Int.toNat_natCast, Int.toNat_natCast]
  rw [hz b hb hob] at h ⊢
  obtain ⟨a0, ha0, _, ea, _⟩ := hI.ord s' hs
  have hB : Sg.Beside (jnF R C ms) ((planF R C ms).cells.getD s' []) := by
    have := Sg.ord_beside hJ ha0
    rwa [ea] at this
  have hlN : ∀ u ∈ (planF R C ms).cells.getD s' [], u < ms.length := by
    have := (Sg.ord_list hJ ha0).2.2.1
    rwa [ea] at this
  have hfar := Sg.ins_far (E := edgN R C ms) (g := fun u => farZ C ms.length (a : Int) (u : Int)) hma (by
    show farZ C ms.length (a : Int) (a : Int) ≤ 0
    unfold farZ apartZ
    split <;> omega) (fun u v hu huv => by
    have huN := hlN u hu
    have hov := edgN_out huv
    obtain ⟨hvN, hf1, _⟩ := out_facts ho.hC ho.hN huN hov
    show farZ C ms.length (a : Int) (v : Int) ≤ farZ C ms.length (a : Int) (u : Int) + 1
    unfold farZ at hf1 ⊢
    rw [if_pos (by omega)] at hf1
    rw [if_pos (by omega), if_pos (by omega)]
    simp only [Int.toNat_natCast] at hf1 ⊢
    unfold apartZ at hf1 ⊢
    omega) h
  refine ⟨a, b, s', rfl, rfl, ha, hb, hoa, hob, hs, hfar.1, hfar.2, fun c hc => ?_⟩
  obtain ⟨hcN, _⟩ := out_facts ho.hC ho.hN hb hc
  refine ⟨hcN, fun hoc => ?_⟩
  rw [hz c hcN hoc]
  have hcm := ((hI.of c hcN).2 s').1 hoc
  exact Sg.ins_step hB hma hcm.2 (jnF_mem.2 ⟨hcN, .inl hc⟩) (out_edgN hc) h
end
end Go.Proofs.YtekhlaodlagbdaaGreatDoor
