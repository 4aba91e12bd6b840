/- Joined texts: Eq, Rn. -/
import Derived.Test.YtekhlaodlagbdaaGreatDoorRe

/-
  The document's edges are the program's.
-/
namespace Go.Proofs.YtekhlaodlagbdaaGreatDoor
set_option maxRecDepth 100000
set_option linter.unusedSimpArgs false
open Go.RowKit

theorem dirK_1 {C a x : Nat} (h : (x : Int) = (a : Int) - 1 ∧ x / C = a / C) : dirK C a x = 1 := by unfold dirK; rw [if_pos]; simpa using h
theorem dirK_0 {C a x : Nat} (h : ¬ ((x : Int) = (a : Int) - 1 ∧ x / C = a / C)) (h2 : x / C < a / C) : dirK C a x = 0 := by unfold dirK; rw [if_neg (by simpa using h), if_pos (by simpa using h2)]
theorem dirK_3 {C a x : Nat} (h : ¬ ((x : Int) = (a : Int) - 1 ∧ x / C = a / C)) (h2 : a / C < x / C) : dirK C a x = 3 := by unfold dirK; rw [if_neg (by simpa using h), if_neg (by simp only [Int.toNat_natCast]; omega), if_pos (by simpa using h2)]
theorem dirK_2 {C a x : Nat} (h : ¬ ((x : Int) = (a : Int) - 1 ∧ x / C = a / C)) (h2 : x / C = a / C) : dirK C a x = 2 := by unfold dirK; rw [if_neg (by simpa using h), if_neg (by simp only [Int.toNat_natCast]; omega), if_neg (by simp only [Int.toNat_natCast]; omega)]

theorem side_far {R C a x k : Nat} (hC : 1 ≤ C) (hk : k < 4) (h : side R C a k = some x) :
    dirK C a x = k ∧ apartZ ((a / C : Nat) : Int) ((x / C : Nat) : Int) + apartZ ((a % C : Nat) : Int) ((x % C : Nat) : Int) = 1 := by
  obtain ⟨_, h1, h2⟩ := (side_iff hC).1 h
  have e1 := Nat.div_add_mod a C
  have e2 := Nat.div_add_mod x C
  have hk' : k = 0 ∨ k = 1 ∨ k = 2 ∨ k = 3 := by omega
  rcases hk' with rfl | rfl | rfl | rfl
  all_goals simp only [dn0, dn1, dn2, dn3, rt0, rt1, rt2, rt3] at h1 h2
  · refine ⟨dirK_0 (by omega) (by omega), ?_⟩
    unfold apartZ
    omega
  · have hr : x / C = a / C := by omega
    rw [hr] at e2
    refine ⟨dirK_1 ⟨by omega, hr⟩, ?_⟩
    unfold apartZ
    omega
  · have hr : x / C = a / C := by omega
    rw [hr] at e2
    refine ⟨dirK_2 (by omega) hr, ?_⟩
    unfold apartZ
    omega
  · refine ⟨dirK_3 (by omega) (by omega), ?_⟩
    unfold apartZ
    omega

theorem far_side {R C a x : Nat} (hC : 1 ≤ C) (hx : x < R * C) (h : apartZ ((a / C : Nat) : Int) ((x / C : Nat) : Int) + apartZ ((a % C : Nat) : Int) ((x % C : Nat) : Int) = 1) : ∃ k, k < 4 ∧ side R C a k = some x := by
  have hs : ∀ k, side R C a k = some x ↔ x < R * C ∧ ((x / C : Nat) : Int) = ((a / C : Nat) : Int) + dnK k ∧ ((x % C : Nat) : Int) = ((a % C : Nat) : Int) + rtK k := fun k => side_iff hC
  simp only [hs]
  unfold apartZ at h
  generalize x / C = r' at *
  generalize a / C = r at *
  generalize x % C = q' at *
  generalize a % C = q at *
  have hc : ((r' : Int) = r - 1 ∧ q' = q) ∨ (r' = r ∧ (q' : Int) = q - 1) ∨ (r' = r ∧ (q' : Int) = q + 1) ∨ ((r' : Int) = r + 1 ∧ q' = q) := by omega
  rcases hc with ⟨e1, e2⟩ | ⟨e1, e2⟩ | ⟨e1, e2⟩ | ⟨e1, e2⟩
  · exact ⟨0, by omega, hx, by rw [dn0]; omega, by rw [rt0]; omega⟩
  · exact ⟨1, by omega, hx, by rw [dn1]; omega, by rw [rt1]; omega⟩
  · exact ⟨2, by omega, hx, by rw [dn2]; omega, by rw [rt2]; omega⟩
  · exact ⟨3, by omega, hx, by rw [dn3]; omega, by rw [rt3]; omega⟩

theorem mk_ne (k : Nat) : mkK k ≠ 35 := by unfold mkK; split <;> (try split) <;> (try split) <;> omega

theorem edge_iff {R C : Nat} {ms : List UInt8} (hC : 1 ≤ C) (hN : R * C = ms.length) {a x : Nat} (ha : a < ms.length) (hx : x < ms.length) :
    edgeB C ms a x = decide (x ∈ outs R C ms a) := by
  have f1 := freeB_nat ha
  have f2 := freeB_nat hx
  have k1 : kindB ms (a : Int) = ms.getD a 0 := by unfold kindB; rw [if_pos (by omega)]; rfl
  have k2 : kindB ms (x : Int) = ms.getD x 0 := by unfold kindB; rw [if_pos (by omega)]; rfl
  have hf : farZ C ms.length (a : Int) (x : Int) = apartZ ((a / C : Nat) : Int) ((x / C : Nat) : Int) + apartZ ((a % C : Nat) : Int) ((x % C : Nat) : Int) := by
    unfold farZ; rw [if_pos (by omega)]; rfl
  unfold edgeB
  rw [f1, f2, k1, k2, hf, ← neq35, ← neq35]
  rw [Bool.eq_iff_iff, decide_eq_true_eq, mem_outs]
  simp only [goes, leavesB, entersB]
  generalize ms.getD a 0 = c
  generalize ms.getD x 0 = d
  constructor
  · intro h
    simp only [Bool.and_eq_true, bne_iff_ne, ne_eq, beq_iff_eq, Bool.or_eq_true] at h
    obtain ⟨⟨⟨h1, h2⟩, h3⟩, h4, h5⟩ := h
    obtain ⟨k, hk, hs⟩ := far_side hC (hN ▸ hx) h3
    have hd := (side_far hC hk hs).1
    rw [hd] at h4 h5
    refine ⟨k, hk, hs, ?_⟩
    simp only [Bool.and_eq_true, bne_iff_ne, ne_eq, beq_iff_eq, Bool.or_eq_true]
    exact ⟨h4, h2, h5⟩
  · rintro ⟨k, hk, hs, h⟩
    obtain ⟨hd, h3⟩ := side_far hC hk hs
    rw [hd, h3]
    simp only [Bool.and_eq_true, bne_iff_ne, ne_eq, beq_iff_eq, Bool.or_eq_true] at h ⊢
    obtain ⟨h4, h2, h5⟩ := h
    refine ⟨⟨⟨?_, h2⟩, trivial⟩, h4, h5⟩
    have := mk_ne k
    rcases h4 with h4 | h4 <;> omega

theorem rise_ext : ∀ {l m : List Nat}, l.Pairwise (· < ·) → m.Pairwise (· < ·) → (∀ x, x ∈ l ↔ x ∈ m) → l = m
  | [], [], _, _, _ => rfl
  | [], y :: ys, _, _, h => absurd ((h y).2 (by simp)) (by simp)
  | x :: xs, [], _, _, h => absurd ((h x).1 (by simp)) (by simp)
  | x :: xs, y :: ys, h1, h2, h => by
    rw [List.pairwise_cons] at h1 h2
    have e : x = y := by
      have hx := (h x).1 (by simp)
      have hy := (h y).2 (by simp)
      rcases List.mem_cons.1 hx with e | hx
      · exact e
      · rcases List.mem_cons.1 hy with e | hy
        · exact e.symm
        · have := h1.1 _ hy; have := h2.1 _ hx; omega
    subst e
    congr 1
    refine rise_ext h1.2 h2.2 fun z => ?_
    have hz := h z
    simp only [List.mem_cons] at hz
    constructor
    · intro hm
      rcases hz.1 (.inr hm) with e | h'
      · subst e; have := h1.1 _ hm; omega
      · exact h'
    · intro hm
      rcases hz.2 (.inr hm) with e | h'
      · subst e; have := h2.1 _ hm; omega
      · exact h'

theorem range_rise (n : Nat) (p : Nat → Bool) : ((List.range n).filter p).Pairwise (· < ·) := by
  refine List.Pairwise.filter _ ?_
  rw [List.range_eq_range']
  exact List.pairwise_lt_range' (step := 1)

/-- No edge from or to what is no cell. -/
theorem edge_out {C : Nat} {ms : List UInt8} {a x : Int} (h : ¬ ((0 ≤ a ∧ a < (ms.length : Int)) ∧ (0 ≤ x ∧ x < (ms.length : Int)))) : edgeB C ms a x = false := by
  rw [Bool.eq_false_iff]
  intro e
  unfold edgeB at e
  simp only [Bool.and_eq_true] at e
  exact h ⟨free_range e.1.1.1, free_range e.1.1.2⟩

theorem next_eq {R C : Nat} {ms : List UInt8} (hC : 1 ≤ C) (hN : R * C = ms.length) (a : Int) :
    (List.range ms.length).filter (fun (x : Nat) => edgeB C ms a x) = nextZ R C ms a := by
  unfold nextZ
  by_cases ha : 0 ≤ a ∧ a < (ms.length : Int)
  · rw [if_pos ha]
    obtain ⟨k, rfl⟩ := Int.eq_ofNat_of_zero_le ha.1
    refine rise_ext (range_rise _ _) (outs_rise R C ms _ hC) fun x => ?_
    simp only [List.mem_filter, List.mem_range, Int.toNat_natCast]
    constructor
    · rintro ⟨h1, h2⟩
      rw [edge_iff hC hN (by omega) h1] at h2
      simpa using h2
    · intro h
      have hx : x < ms.length := hN ▸ outs_bd h
      exact ⟨hx, by rw [edge_iff hC hN (by omega) hx]; simpa using h⟩
  · rw [if_neg ha, List.filter_eq_nil_iff]
    intro x _
    rw [edge_out (fun e => ha e.1)]
    simp

theorem back_eq {R C : Nat} {ms : List UInt8} (hC : 1 ≤ C) (hN : R * C = ms.length) (x : Int) :
    (List.range ms.length).filter (fun (a : Nat) => edgeB C ms a x) = backZ R C ms x := by
  unfold backZ
  by_cases hx : 0 ≤ x ∧ x < (ms.length : Int)
  · rw [if_pos hx]
    obtain ⟨k, rfl⟩ := Int.eq_ofNat_of_zero_le hx.1
    unfold ins
    refine List.filter_congr fun a ha => ?_
    exact edge_iff hC hN (List.mem_range.1 ha) (by omega)
  · rw [if_neg hx, List.filter_eq_nil_iff]
    intro a _
    rw [edge_out (fun e => hx e.2)]
    simp

/-- Whether the program's Edge says so, and the document's. -/
theorem edge_eq {R C : Nat} {ms : List UInt8} (hC : 1 ≤ C) (hN : R * C = ms.length) (a x : Int) : (nextZ R C ms a).any (fun u => (u : Int) == x) = edgeB C ms a x := by
  rw [← next_eq hC hN a]
  by_cases hx : 0 ≤ x ∧ x < (ms.length : Int)
  · obtain ⟨k, rfl⟩ := Int.eq_ofNat_of_zero_le hx.1
    rw [Bool.eq_iff_iff, List.any_eq_true]
    constructor
    · rintro ⟨u, hu, he⟩
      simp only [beq_iff_eq] at he
      have : u = k := by omega
      subst this
      exact (List.mem_filter.1 hu).2
    · intro h
      exact ⟨k, List.mem_filter.2 ⟨List.mem_range.2 (by omega), h⟩, by simp⟩
  · rw [edge_out (fun e => hx e.2), List.any_eq_false]
    intro u hu he
    simp only [beq_iff_eq] at he
    have := List.mem_range.1 (List.mem_filter.1 hu).1
    exact hx (by omega)

theorem eds_sum (R C : Nat) (ms : List UInt8) (n : Nat) : eds R C ms (n + 1) = eds R C ms n + (outs R C ms n).length := by
  unfold outs
  rw [List.length_map]
  rfl
end Go.Proofs.YtekhlaodlagbdaaGreatDoor

/-
  The walks of the document's Next, Back and Same.
-/
namespace Go.Proofs.YtekhlaodlagbdaaGreatDoor
set_option maxRecDepth 100000
set_option linter.unusedSimpArgs false
open Go.RowKit

/-- A list of new memory. -/
def ListPost (w : World) (l : List Nat) (e : Ending) (w' : World) : Prop :=
  ∃ v, e = .returned v ∧ w'.ownsRow w.heap.size 3 1 v l.length (l.map natV) ∧ Below w.heap.size w w'

set_option maxHeartbeats 1600000 in
theorem rnext_any {b g cap : Nat} {Q : List ByteArray} {w : World} (a : Int) (h : RefAt w b g cap Q) (hg : Pure.Good (lsts Q)) :
    Calls Tryz.prog 78 #[.pointer (some ⟨b, 0, none⟩), .int .i64 a] w (ListPost w ((List.range (lsts Q).flatten.length).filter (fun (x : Nat) => edgeB (Pure.wid (lsts Q)) (lsts Q).flatten a x))) := by
  obtain ⟨i0, hi, hz0, hz1, hz2⟩ := info_parts Tryz.infoInt
  have HR : Hid (RefAt w b g cap Q) := h
  have HC : Hid (∀ w', RefAt w' b g cap Q → Calls Tryz.prog 55 #[.pointer (some ⟨b, 0, none⟩)] w' fun e w'' => e = .returned (.int .i64 ((lsts Q).flatten.length : Int)) ∧ ∃ n, w'' = w'.drewN n) := fun w' h => rcells_any h hg
  obtain ⟨f, hfe⟩ : ∃ f : Nat → Bool, f = fun (x : Nat) => edgeB (Pure.wid (lsts Q)) (lsts Q).flatten a x := ⟨_, rfl⟩
  have HE : Hid (∀ (x : Nat) w', RefAt w' b g cap Q → Calls Tryz.prog 70 #[.pointer (some ⟨b, 0, none⟩), .int .i64 a, .int .i64 (x : Int)] w' fun e w'' => e = .returned (.bool (f x)) ∧ ∃ n, w'' = w'.drewN n) := by
    rw [hfe]
    exact fun x w' h => redge_any _ _ h hg
  rw [← hfe]
  have hsm := hg.small
  clear h hg hfe
  generalize (lsts Q).flatten.length = N at *
  go_enter Tryz.func78, Tryz.ntmps78
  go_wp2
  go_loopw [5, 6] (fun v i wr => ∃ k : Nat, k ≤ N ∧ i = .int .i64 k ∧ wr.ownsRow w.heap.size 3 1 v ((List.range k).filter f).length (((List.range k).filter f).map natV) ∧ Below w.heap.size w wr) (fun _ i _ => N - (intOf i).toNat)
  case atStart => exact ⟨0, Nat.zero_le _, rfl, World.ownsRow_nil _ _ _ _, Below.refl _ _⟩
  case round =>
    obtain ⟨k, hk, rfl, hown, hnx⟩ := hrel
    have hle : ((List.range k).filter f).length ≤ k := Nat.le_trans (List.length_filter_le _ _) (by simp)
    have HR1 : Hid (RefAt wr b g cap Q) := HR.out.below hnx (Nat.le_refl _)
    have hstep : Hid (∀ w', (∃ n, w' = wr.drewN n) → w'.ownsRow w.heap.size 3 1 u5 ((List.range k).filter f).length (((List.range k).filter f).map natV) ∧ Below w.heap.size w w' ∧ RefAt w' b g cap Q) := by
      rintro w' ⟨n, rfl⟩
      exact ⟨hown, ⟨hnx.os, hnx.tape, hnx.output, hnx.size, hnx.block⟩, HR1.out.drewN n⟩
    clear hown hnx
    by_cases hlt : k < N
    · have hki : (k : Int) < (N : Int) := by omega
      have HEk := HE.out k
      have HEk2 : Hid (∀ w', RefAt w' b g cap Q → Calls Tryz.prog 70 #[.pointer (some ⟨b, 0, none⟩), .int .i64 a, .int .i64 (k : Int)] w' fun e w'' => e = .returned (.bool (f k)) ∧ ∃ n, w'' = w'.drewN n) := HEk
      clear HEk
      cases hf : f k
      · have hit : Hid ((List.range (k + 1)).filter f = (List.range k).filter f) := by show _ = _; rw [List.range_succ, List.filter_append]; simp [hf]
        rw [hf] at HEk2
        clear hf
        go_wp2_with (first
          | (go_at_call 55; (with_reducible refine (HC.out _ HR1.out).mono ?_); rintro e w1 ⟨rfl, hw1⟩; have H1 : Hid (w1.ownsRow w.heap.size 3 1 u5 ((List.range k).filter f).length (((List.range k).filter f).map natV) ∧ Below w.heap.size w w1 ∧ RefAt w1 b g cap Q) := hstep.out w1 hw1; have HW1 : Hid (∃ n, w1 = wr.drewN n) := hw1; clear hw1)
          | (go_at_call 70; (with_reducible refine (HEk2.out _ H1.out.2.2).mono ?_); rintro e w2 ⟨rfl, hw2⟩; have H2 : Hid (w2.ownsRow w.heap.size 3 1 u5 ((List.range k).filter f).length (((List.range k).filter f).map natV) ∧ Below w.heap.size w w2) := (by (obtain ⟨m1, hm1⟩ := HW1.out); (obtain ⟨m2, hm2⟩ := hw2); (have hz := hstep.out w2 ⟨m1 + m2, by rw [hm2, hm1, World.drewN_drewN]⟩); exact ⟨hz.1, hz.2.1⟩); clear hw2))
        go_roundw
        case rel => exact ⟨k + 1, by omega, by go_num, by rw [hit.out]; exact H2.out.1, H2.out.2⟩
        case measure => simp [intOf]; omega
      · have hit : Hid ((List.range (k + 1)).filter f = (List.range k).filter f ++ [k]) := by show _ = _; rw [List.range_succ, List.filter_append]; simp [hf]
        rw [hf] at HEk2
        clear hf
        go_wp2_with (first
          | (go_at_call 55; (with_reducible refine (HC.out _ HR1.out).mono ?_); rintro e w1 ⟨rfl, hw1⟩; have H1 : Hid (w1.ownsRow w.heap.size 3 1 u5 ((List.range k).filter f).length (((List.range k).filter f).map natV) ∧ Below w.heap.size w w1 ∧ RefAt w1 b g cap Q) := hstep.out w1 hw1; have HW1 : Hid (∃ n, w1 = wr.drewN n) := hw1; clear hw1)
          | (go_at_call 70; (with_reducible refine (HEk2.out _ H1.out.2.2).mono ?_); rintro e w2 ⟨rfl, hw2⟩; have H2 : Hid (w2.ownsRow w.heap.size 3 1 u5 ((List.range k).filter f).length (((List.range k).filter f).map natV) ∧ Below w.heap.size w w2) := (by (obtain ⟨m1, hm1⟩ := HW1.out); (obtain ⟨m2, hm2⟩ := hw2); (have hz := hstep.out w2 ⟨m1 + m2, by rw [hm2, hm1, World.drewN_drewN]⟩); exact ⟨hz.1, hz.2.1⟩); clear hw2)
          | (at_builtin; refine wpList_append_own _ rfl _ _ 36 rfl w.heap.size 3 i0 (.int .i64 0) 1 8 Tryz.underlying36 hi hz0 hz1 hz2 rfl (by decide) _ _ _ rfl (H2.out.1.alloc _) ⟨w2.heap.size, 0, none⟩ 1 1 [natV k] rfl rfl ?c1 ?c2 ?c3 ?c4 ?c5 ?_))
        case c1 => intro j u hj; match j, hj with | 0, hj => simp at hj; subst hj; simp [Addr.add, natV]
        case c2 => intro u hu; simp at hu; subst hu; rfl
        case c3 => unfold maxLen; omega
        case c4 => omega
        case c5 => have := H2.out.2.size; simp; omega
        intro v' w3 hown' hgrow _
        have hnx1 : Below w.heap.size w w3 := (H2.out.2.alloc H2.out.2.size _).grown hgrow (by simp; have := H2.out.2.size; omega) (fun j hj => (H2.out.1.lt j hj).1)
        have hown1 : w3.ownsRow w.heap.size 3 1 v' ((List.range (k + 1)).filter f).length (((List.range (k + 1)).filter f).map natV) := by rw [hit.out]; simpa using hown'
        have Ho : Hid (w3.ownsRow w.heap.size 3 1 v' ((List.range (k + 1)).filter f).length (((List.range (k + 1)).filter f).map natV) ∧ Below w.heap.size w w3) := ⟨hown1, hnx1⟩
        clear hgrow hown' hown1 hnx1
        go_wp2
        go_roundw
        case rel => exact ⟨k + 1, by omega, by go_num, Ho.out.1, Ho.out.2⟩
        case measure => simp [intOf]; omega
    · obtain rfl : k = N := by omega
      go_wp2_with (go_at_call 55; (with_reducible refine (HC.out _ HR1.out).mono ?_); rintro e w1 ⟨rfl, hw1⟩; have H1 : Hid (w1.ownsRow w.heap.size 3 1 u5 ((List.range k).filter f).length (((List.range k).filter f).map natV) ∧ Below w.heap.size w w1 ∧ RefAt w1 b g cap Q) := hstep.out w1 hw1; clear hw1)
      go_ret
      exact ⟨_, rfl, H1.out.1, H1.out.2.1⟩

/-- A list of ints as it is read. -/
def Lst (w : World) (v : Value) (l : List Nat) : Prop := ∃ a c, v = .slice a l.length c ∧ ∀ j, j < l.length → ∃ g, a = some ⟨g, 0, none⟩ ∧ w.cell? ⟨g, j, none⟩ = some (.int .i64 ((l.getD j 0 : Nat) : Int))

theorem lst_of {w : World} {B : Nat} {v : Value} {l : List Nat} (h : w.ownsRow B 3 1 v l.length (l.map natV)) : Lst w v l := by
  rcases h.2 with ⟨rfl, h0⟩ | ⟨g, cap, cur, rfl, _⟩
  · exact ⟨none, 0, by rw [h0], fun j hj => by omega⟩
  · exact ⟨_, _, rfl, fun j hj => ⟨g, rfl, int_cells h j hj⟩⟩

theorem ext_getD {l m : List Nat} (hl : l.length = m.length) (h : ∀ j, j < l.length → l.getD j 0 = m.getD j 0) : l = m := by
  refine List.ext_getElem hl fun j h1 h2 => ?_
  have := h j h1
  simpa [List.getD, h1, h2] using this

end Go.Proofs.YtekhlaodlagbdaaGreatDoor
