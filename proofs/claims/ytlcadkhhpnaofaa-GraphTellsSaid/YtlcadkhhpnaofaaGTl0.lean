/-
  Both graphs at any numbers: what the calls of the law GraphTells answer.
-/
import Derived.Test.YtlcadkhhpnaofaaGRf5
import Derived.Test.YtlcadkhhpnaofaaGW13
import Derived.Test.YtlcadkhhpnaofaaGArg
import Derived.Test.YtlcadkhhpnaofaaGL2
namespace Go.Proofs.Ytlcadkhhpnaofaa
set_option maxRecDepth 100000
open Go Go.RowKit Gq

theorem searchI_any {w : World} {v : Value} {l : List Nat} (h : RowAt w v l) (hl : l.length ≤ 100000) (hr : l.Pairwise (· < ·)) (x : Int) :
    Calls Try.prog 27 #[v, .int .i64 x] w fun e w' => (∃ i : Int, e = .returned (.tuple #[.int .i64 i, .bool ((ints l).contains x)])) ∧ ∃ q, w' = w.drewN q := by
  obtain ⟨A, cap, rfl, _, _, hnil, hc⟩ := h.form
  cases A with
  | none =>
    obtain ⟨rfl, rfl⟩ := hnil rfl
    go_enter Try.func27, Try.ntmps27
    go_wp2
    refine wp_loop_rounds 1 ?_
    rw [rounds_succ]
    go_wp2
    go_ret2
    exact ⟨⟨0, by simp [ints]⟩, 0, rfl⟩
  | some a =>
    by_cases h0 : l = []
    · subst h0
      go_enter Try.func27, Try.ntmps27
      go_wp2
      refine wp_loop_rounds 1 ?_
      rw [rounds_succ]
      go_wp2
      go_ret2
      exact ⟨⟨0, by simp [ints]⟩, 0, rfl⟩
    · have hpos : 0 < l.length := List.length_pos_iff.2 h0
      obtain ⟨g, e, _⟩ := hc 0 hpos
      cases e
      have := Any.slices_BinarySearch_int laySearch g 0 l.length cap (ints l) x w (by rw [ints_length]; exact Nat.le_refl _) (by omega) (fun j hj => by
        obtain ⟨g', e', h1, _⟩ := hc j (by simpa [ints] using hj)
        cases e'
        rw [Nat.zero_add, h1]
        simp [ints, List.getD, show j < l.length by simpa [ints] using hj]) (by
        rw [List.take_of_length_le (by rw [ints_length]; exact Nat.le_refl _)]
        unfold ints
        rw [List.pairwise_map]
        exact hr.imp (fun {a b} h => by omega))
      refine Calls.mono this fun e w' ⟨he, hw⟩ => ⟨?_, hw⟩
      rw [he, List.take_of_length_le (by rw [ints_length]; exact Nat.le_refl _)]
      exact ⟨_, rfl⟩

theorem gHasI_any {w : World} {b : Nat} {R : Gr} {S : Nat → Prop} (h : GAt w b R S) (hO : Ok R) {a : Nat} (ha : a < R.length) (x : Int) :
    Calls Try.prog 10 #[.pointer (some ⟨b, 0, none⟩), .int .i64 (a : Int), .int .i64 x] w fun e w' => e = .returned (.bool ((ints (row R a)).contains x)) ∧ ∃ q, w' = w.drewN q := by
  have HH := Lib.hid (has_any h (a : Int))
  obtain ⟨A, Vs, T, hc, hf, ht, _⟩ := h
  obtain ⟨g, cap, rfl, _, hc2, _⟩ := ht.head ha
  have HR := Lib.hid (searchI_any (ht.row a ha).1 (by have := hO.len a; have := hO.size; omega) (hO.rise a) x)
  have hn := hO.size
  have hnode : isNode R.length (a : Int) = true := by simp [isNode, ha]
  rw [hnode] at HH
  clear ht hf hO hnode
  generalize R.length = n at *
  generalize hd Vs a = v at *
  obtain ⟨r, hr⟩ : ∃ r, (ints (row R a)).contains x = r := ⟨_, rfl⟩
  rw [hr] at HR ⊢
  clear hr
  go_enter Try.func10, Try.ntmps10
  go_wp2_with fail
  refine HH.out.mono ?_
  rintro e w' ⟨rfl, rfl⟩
  go_wp2_with fail
  refine HR.out.mono ?_
  rintro e w' ⟨⟨i, rfl⟩, q, rfl⟩
  clear HR
  go_wp2
  go_ret
  exact ⟨rfl, q, rfl⟩

theorem dist_out {w : World} {b : Nat} {R : Gr} {S : Nat → Prop} (h : GAt w b R S) {a : Int} (ha : isNode R.length a = false) :
    Calls Try.prog 13 #[.pointer (some ⟨b, 0, none⟩), .int .i64 a] w fun e w' => e = .returned (.slice none 0 0) ∧ Below w.heap.size w w' := by
  have HH : Hid (∀ o, Calls Try.prog 26 #[.pointer (some ⟨b, 0, none⟩), .int .i64 a] (w.alloc o) fun e w' => e = .returned (.bool false) ∧ w' = w.alloc o) := fun o => by
    have := has_any (h.alloc o) a
    rw [ha] at this
    exact this
  have HH2 : Hid (Calls Try.prog 26 #[.pointer (some ⟨b, 0, none⟩), .int .i64 a] w fun e w' => e = .returned (.bool false) ∧ w' = w) := by
    have := has_any h a
    rw [ha] at this
    exact this
  have HB : Hid (Below w.heap.size w w ∧ ∀ o, Below w.heap.size w (w.alloc o)) := ⟨Below.refl _ w, fun o => (Below.refl _ w).alloc (Nat.le_refl _) o⟩
  clear h
  go_enter Try.func13, Try.ntmps13
  go_wp2_with fail
  first | refine HH2.out.mono ?_ | refine (HH.out _).mono ?_
  rintro e w' ⟨rfl, rfl⟩
  go_wp2
  go_ret
  exact ⟨rfl, by first | exact HB.out.1 | exact HB.out.2 _⟩
theorem reach_out {w : World} {b : Nat} {R : Gr} {S : Nat → Prop} (h : GAt w b R S) {a : Int} (ha : isNode R.length a = false) :
    Calls Try.prog 17 #[.pointer (some ⟨b, 0, none⟩), .int .i64 a] w fun e w' => e = .returned (.slice none 0 0) ∧ Below w.heap.size w w' := by
  have HH : Hid (∀ o, Calls Try.prog 26 #[.pointer (some ⟨b, 0, none⟩), .int .i64 a] (w.alloc o) fun e w' => e = .returned (.bool false) ∧ w' = w.alloc o) := fun o => by
    have := has_any (h.alloc o) a
    rw [ha] at this
    exact this
  have HH2 : Hid (Calls Try.prog 26 #[.pointer (some ⟨b, 0, none⟩), .int .i64 a] w fun e w' => e = .returned (.bool false) ∧ w' = w) := by
    have := has_any h a
    rw [ha] at this
    exact this
  have HB : Hid (Below w.heap.size w w ∧ ∀ o, Below w.heap.size w (w.alloc o)) := ⟨Below.refl _ w, fun o => (Below.refl _ w).alloc (Nat.le_refl _) o⟩
  clear h
  go_enter Try.func17, Try.ntmps17
  go_wp2_with fail
  first | refine HH2.out.mono ?_ | refine (HH.out _).mono ?_
  rintro e w' ⟨rfl, rfl⟩
  go_wp2
  go_ret
  exact ⟨rfl, by first | exact HB.out.1 | exact HB.out.2 _⟩
theorem rDist_out {w : World} {r n : Nat} {E : Nat → Nat → Bool} {Z : Nat → Prop} (h : RAt w r n E Z) (hn : n ≤ 1024) {a : Int} (ha : isNode n a = false) (loose : Bool) (wo : Int) :
    Calls Try.prog 14 #[.pointer (some ⟨r, 0, none⟩), .int .i64 a, .bool loose, .int .i64 wo] w fun e w' => e = .returned (.slice none 0 0) ∧ w' = w := by
  have HN := Lib.hid (node_any h hn a)
  rw [ha] at HN
  clear h
  go_enter Try.func14, Try.ntmps14
  go_wp2_with (with_reducible refine HN.out.mono ?_; rintro e w' ⟨rfl, hw⟩; obtain rfl := hw.symm; clear hw)
  go_ret
  exact ⟨rfl, rfl⟩

/-! What is told of any number -/
def outZ (R : Gr) (a : Int) : List Nat := if isNode R.length a = true then row R a.toNat else []
def distZ (R : Gr) (a : Int) : List Int := if isNode R.length a = true then distL R a.toNat else []
def reachZ (R : Gr) (a : Int) : List Nat := if isNode R.length a = true then reachF R a.toNat else []

theorem node_nat {n : Nat} {a : Int} (h : isNode n a = true) : ∃ x : Nat, a = (x : Int) ∧ x < n := by
  simp only [isNode, Bool.and_eq_true, decide_eq_true_eq] at h
  obtain ⟨x, rfl⟩ := Int.eq_ofNat_of_zero_le h.1
  exact ⟨x, rfl, by omega⟩

theorem outI_any {w : World} {b : Nat} {R : Gr} {S : Nat → Prop} (h : GAt w b R S) (hO : Ok R) (a : Int) :
    Calls Try.prog 12 #[.pointer (some ⟨b, 0, none⟩), .int .i64 a] w (NewR w (outZ R a)) := by
  cases hn : isNode R.length a with
  | true =>
    obtain ⟨x, rfl, hx⟩ := node_nat hn
    refine (out_any h hO hx).mono ?_
    rintro e w' hq
    unfold outZ
    rw [if_pos hn, Int.toNat_natCast]
    exact hq
  | false =>
    refine (out_out h hn).mono ?_
    rintro e w' ⟨rfl, hw⟩
    obtain rfl := hw.symm
    unfold outZ
    rw [if_neg (by rw [hn]; simp)]
    exact ⟨_, rfl, RowAt.nil _, fun k hk => by simp [Value.ownBlock] at hk, Below.refl _ _⟩

def TellL (w : World) (l : List Int) (e : Ending) (w' : World) : Prop := ∃ v, e = .returned v ∧ IsL w' v l ∧ Below w.heap.size w w'
theorem isL_nil (w : World) : IsL w (.slice none 0 0) [] := ⟨none, 0, rfl, fun _ => rfl, fun j hj => by simp at hj⟩

theorem distI_any {w : World} {b : Nat} {R : Gr} {S : Nat → Prop} (h : GAt w b R S) (hO : Ok R) (a : Int) :
    Calls Try.prog 13 #[.pointer (some ⟨b, 0, none⟩), .int .i64 a] w (TellL w (distZ R a)) := by
  cases hn : isNode R.length a with
  | true =>
    obtain ⟨x, rfl, hx⟩ := node_nat hn
    refine (dist_any h hO hx).mono ?_
    rintro e w' hq
    obtain ⟨v, rfl⟩ : ∃ v, e = .returned v := by obtain ⟨g, n, e, _⟩ := hq; exact ⟨_, e⟩
    obtain ⟨h1, h2⟩ := NewL.isL hq
    unfold distZ
    rw [if_pos hn, Int.toNat_natCast]
    exact ⟨v, rfl, h1, h2⟩
  | false =>
    refine (dist_out h hn).mono ?_
    rintro e w' ⟨rfl, hw⟩
    unfold distZ
    rw [if_neg (by rw [hn]; simp)]
    exact ⟨_, rfl, isL_nil _, hw⟩
theorem reachI_any {w : World} {b : Nat} {R : Gr} {S : Nat → Prop} (h : GAt w b R S) (hO : Ok R) (a : Int) :
    Calls Try.prog 17 #[.pointer (some ⟨b, 0, none⟩), .int .i64 a] w (TellL w (ints (reachZ R a))) := by
  cases hn : isNode R.length a with
  | true =>
    obtain ⟨x, rfl, hx⟩ := node_nat hn
    refine (reach_any h hO hx).mono ?_
    rintro e w' hq
    obtain ⟨v, rfl⟩ : ∃ v, e = .returned v := by obtain ⟨g, e, _⟩ := hq; exact ⟨_, e⟩
    obtain ⟨h1, h2⟩ := NewR.isL hq
    unfold reachZ
    rw [if_pos hn, Int.toNat_natCast]
    exact ⟨v, rfl, h1, h2⟩
  | false =>
    refine (reach_out h hn).mono ?_
    rintro e w' ⟨rfl, hw⟩
    unfold reachZ
    rw [if_neg (by rw [hn]; simp)]
    exact ⟨_, rfl, isL_nil _, hw⟩

/-! The document's -/
theorem rel_tight {E : Nat → Nat → Bool} {R : Gr} (hE : Says E R) {b c : Nat} (hb : b < R.length) (hc : c < R.length) : RelR E false (-1) b c ↔ c ∈ row R b := by
  unfold RelR
  rw [hE b c hb hc]
  simp
theorem FarA.congr {A B : Nat → Nat → Prop} {n a : Nat} {D : List Int} (h : FarA A n a D) (hAB : ∀ b c, b < n → c < n → (A b c ↔ B b c)) : FarA B n a D :=
  ⟨h.len, h.lo, h.zero, fun b c hb hc hB => h.step b c hb hc ((hAB b c hb hc).2 hB), fun i hi => by
    obtain ⟨b, h1, h2, h3⟩ := h.pred i hi
    exact ⟨b, h1, (hAB b i h1 (by rw [← h.len]; exact dg_lt (by omega))).1 h2, h3⟩⟩
theorem rDistI_any {w : World} {r : Nat} {E : Nat → Nat → Bool} {Z : Nat → Prop} {R : Gr} (h : RAt w r R.length E Z) (hO : Ok R) (hE : Says E R) (a : Int) :
    Calls Try.prog 14 #[.pointer (some ⟨r, 0, none⟩), .int .i64 a, .bool false, .int .i64 (-1)] w (TellL w (distZ R a)) := by
  cases hn : isNode R.length a with
  | true =>
    obtain ⟨x, rfl, hx⟩ := node_nat hn
    refine (rDist_any h hO.size hx false (-1)).mono ?_
    rintro e w' ⟨g, D, rfl, hd, hf⟩
    unfold distZ
    rw [if_pos hn, Int.toNat_natCast]
    have e : D = distL R x := (FarA.congr hf (fun b c hb hc => rel_tight hE hb hc)).uniq (distL_far hO hx).1.farA
    have hl := isL_of (c := R.length) hd.blk
    rw [hf.len, e] at hl
    exact ⟨_, rfl, hl, hd.be⟩
  | false =>
    refine (rDist_out h hO.size hn false (-1)).mono ?_
    rintro e w' ⟨rfl, hw⟩
    obtain rfl := hw.symm
    unfold distZ
    rw [if_neg (by rw [hn]; simp)]
    exact ⟨_, rfl, isL_nil _, Below.refl _ _⟩
theorem hasR_says {E : Nat → Nat → Bool} {R : Gr} (hE : Says E R) {a c : Nat} (ha : a < R.length) (hc : c < R.length) : hasR R.length E (a : Int) (c : Int) = decide (c ∈ row R a) := by
  have e1 : isNode R.length (a : Int) = true := by simp [isNode, ha]
  have e2 : isNode R.length (c : Int) = true := by simp [isNode, hc]
  unfold hasR
  rw [e1, e2, Bool.eq_iff_iff]
  simp only [Bool.true_and, Int.toNat_natCast, decide_eq_true_eq]
  exact hE a c ha hc
theorem out_says {E : Nat → Nat → Bool} {R : Gr} (hE : Says E R) (hO : Ok R) (a : Int) : outK R.length E a R.length = outZ R a := by
  unfold outZ
  cases hn : isNode R.length a with
  | true =>
    obtain ⟨x, rfl, hx⟩ := node_nat hn
    rw [if_pos rfl, Int.toNat_natCast]
    refine rise_ext ?_ (hO.rise x) fun y => ?_
    · exact List.Pairwise.filter _ (by rw [List.range_eq_range']; exact List.pairwise_lt_range' (step := 1))
    · unfold outK
      rw [List.mem_filter, List.mem_range]
      constructor
      · rintro ⟨h1, h2⟩
        rw [hasR_says hE hx h1] at h2
        simpa using h2
      · intro h
        have h1 := hO.node _ _ h
        exact ⟨h1, by rw [hasR_says hE hx h1]; simpa using h⟩
  | false =>
    rw [if_neg (by simp)]
    unfold outK
    rw [List.filter_eq_nil_iff]
    intro y _
    simp [hasR, hn]
theorem rOutI_any {w : World} {r : Nat} {E : Nat → Nat → Bool} {Z : Nat → Prop} {R : Gr} (h : RAt w r R.length E Z) (hO : Ok R) (hE : Says E R) (a : Int) :
    Calls Try.prog 16 #[.pointer (some ⟨r, 0, none⟩), .int .i64 a] w (TellL w (ints (outZ R a))) := by
  refine (rOut_any h hO.size a).mono ?_
  rintro e w' hq
  rw [out_says hE hO] at hq
  obtain ⟨v, rfl⟩ : ∃ v, e = .returned v := by obtain ⟨g, e, _⟩ := hq; exact ⟨_, e⟩
  obtain ⟨h1, h2⟩ := NewR.isL hq
  exact ⟨v, rfl, h1, h2⟩
theorem rch_pth {R : Gr} (hO : Ok R) {a : Nat} (x : Nat) : RchA (fun b c => c ∈ row R b) R.length a x ↔ Pth R a x := by
  constructor
  · intro h
    induction h with
    | refl => exact .refl _
    | tail _ _ _ hA ih => exact ih.trans (.head hA (.refl _))
  · intro h
    have key : ∀ p q, Pth R p q → RchA (fun b c => c ∈ row R b) R.length a p → RchA (fun b c => c ∈ row R b) R.length a q := by
      intro p q hpq
      induction hpq with
      | refl _ => exact id
      | head hc _ ih => exact fun hr => ih (.tail hr (row_lt hc) (hO.node _ _ hc) hc)
    exact key a x h .refl
theorem rStrongI_any {w : World} {r : Nat} {E : Nat → Nat → Bool} {Z : Nat → Prop} {R : Gr} (h : RAt w r R.length E Z) (hO : Ok R) (hE : Says E R) :
    Calls Try.prog 21 #[.pointer (some ⟨r, 0, none⟩)] w (TellL w (ints (strF R))) := by
  have hp : ∀ i j, RchA (RelR E false (-1)) R.length i j ↔ Pth R i j := fun i j => by
    rw [rch_congr (B := fun b c => c ∈ row R b) (fun b c hb hc => rel_tight hE hb hc)]
    exact rch_pth hO j
  refine (rStrong_any h hO.size (nv (hdsF R)) (fun i j hi hj => ?_)).mono ?_
  · rw [hp, hp, (hds_all hO).2 i j hi hj]
    rfl
  · rintro e w' ⟨v, rfl, h1, h2⟩
    rw [← str_num hO] at h1
    exact ⟨v, rfl, h1, h2⟩

/-- Who has a distance. -/
def posK (D : List Int) (k : Nat) : List Nat := (List.range k).filter (fun b => decide (0 ≤ dg D b))
theorem posK_hit {D : List Int} {k : Nat} (h : 0 ≤ dg D k) : posK D (k + 1) = posK D k ++ [k] := by simp [posK, List.range_succ, List.filter_append, h]
theorem posK_miss {D : List Int} {k : Nat} (h : ¬ 0 ≤ dg D k) : posK D (k + 1) = posK D k := by
  simp only [posK, List.range_succ, List.filter_append]
  rw [List.filter_cons_of_neg (by simpa using h)]
  simp
theorem posK_le (D : List Int) (k : Nat) : (posK D k).length ≤ k := Nat.le_trans (List.length_filter_le _ _) (by simp)
theorem reach_rise {R : Gr} (hO : Ok R) {a : Nat} (ha : a < R.length) : (reachF R a).Pairwise (· < ·) := by
  obtain ⟨far, h⟩ := tells_lv hO ha (M0 := List.replicate R.length false) (by simp) (mt_none ..)
  have hnd : (fsts (tells R (List.replicate R.length false) a)).Nodup := by simpa [fsts] using h.nd
  have hp : (reachF R a).Nodup := (List.mergeSort_perm _ _).nodup_iff.2 hnd
  have hs : (reachF R a).Pairwise (fun a b => decide (a ≤ b) = true) := List.pairwise_mergeSort (fun a b c h1 h2 => by simp at *; omega) (fun a b => by simp; omega) _
  exact (hs.and hp).imp (fun {a b} h => by have := h.1; have := h.2; simp at *; omega)
theorem posK_all {R : Gr} (hO : Ok R) (a : Int) : posK (distZ R a) (distZ R a).length = reachZ R a := by
  unfold distZ reachZ
  cases hn : isNode R.length a with
  | true =>
    obtain ⟨x, rfl, hx⟩ := node_nat hn
    rw [if_pos rfl, if_pos rfl, Int.toNat_natCast]
    refine rise_ext ?_ (reach_rise hO hx) fun y => ?_
    · exact List.Pairwise.filter _ (by rw [List.range_eq_range']; exact List.pairwise_lt_range' (step := 1))
    · have hf := (distL_far hO hx).1
      unfold posK
      rw [List.mem_filter, List.mem_range, mem_reach hO hx, ← hf.reach]
      simp only [decide_eq_true_eq]
      exact ⟨fun h => h.2, fun h => ⟨dg_lt h, h⟩⟩
  | false => rfl
theorem distZ_len {R : Gr} (hO : Ok R) (a : Int) : (distZ R a).length ≤ R.length := by
  unfold distZ
  split
  · rename_i h
    obtain ⟨x, rfl, hx⟩ := node_nat h
    have hf := (distL_far hO hx).1
    rw [Int.toNat_natCast, hf.len]
    exact Nat.le_refl _
  · simp
theorem outZ_len {R : Gr} (hO : Ok R) (a : Int) : (outZ R a).length ≤ R.length := by
  unfold outZ
  split
  · exact hO.len _
  · simp
end Go.Proofs.Ytlcadkhhpnaofaa
