/-
  RouteTriangle.
-/
import Derived.Test.YtkfijjjnidiejaaDoorSh2
namespace Go.Proofs.YtkfijjjnidiejaaDoor
set_option maxRecDepth 100000
set_option linter.unusedSimpArgs false
open Go Go.RowKit Rq

section
variable {R C : Nat} {ms : List UInt8}
theorem mayZ_nil (fr : Nat) : mayZ [] fr = fun _ => true := by
  funext c
  simp [mayZ]
theorem dist_of {a b x : Int} (h : distZ R C ms a b [] = (x, 0)) : ∃ A B X : Nat, a = (A : Int) ∧ b = (B : Int) ∧ A < ms.length ∧ B < ms.length ∧ freeB ms a = true ∧ freeB ms b = true ∧ x = (X : Int) ∧ Ds (ins R C ms) (fun _ => true) B X A := by
  unfold distZ at h
  split at h
  · rename_i hf
    obtain ⟨h1, h2⟩ := Bool.and_eq_true_iff.1 hf
    obtain ⟨h3, h4⟩ := free_range h1
    obtain ⟨h5, h6⟩ := free_range h2
    obtain ⟨A, rfl⟩ := Int.eq_ofNat_of_zero_le h3
    obtain ⟨B, rfl⟩ := Int.eq_ofNat_of_zero_le h5
    simp only [Int.toNat_natCast] at h
    split at h
    · cases h
    · rename_i D hD
      have hx : (D : Int) = x := (Prod.mk.inj h).1
      rw [dsZ_some (by omega), mayZ_nil] at hD
      exact ⟨A, B, D, rfl, rfl, by omega, by omega, h1, h2, hx.symm, hD⟩
  · cases h
theorem of_dist {A B n : Nat} (_ : A < ms.length) (hB : B < ms.length) (h1 : freeB ms (A : Int) = true) (h2 : freeB ms (B : Int) = true) (hw : Wy (ins R C ms) (fun _ => true) B n A) : ∃ Z : Nat, Z ≤ n ∧ Ds (ins R C ms) (fun _ => true) B Z A ∧ distZ R C ms (A : Int) (B : Int) [] = ((Z : Int), 0) := by
  obtain ⟨Z, hz, hd⟩ := hw.ds
  refine ⟨Z, hz, hd, ?_⟩
  have hd' := hd
  rw [← mayZ_nil A, ← dsZ_some hB] at hd'
  unfold distZ
  rw [h1, h2]
  simp only [Bool.and_self, if_true, Int.toNat_natCast, hd']
theorem dist_bound (hs : ms.length ≤ 1024) (a b : Int) : 0 ≤ (distZ R C ms a b []).1 ∧ (distZ R C ms a b []).1 ≤ 1024 := by
  unfold distZ
  split
  · rename_i hf
    obtain ⟨h1, h2⟩ := Bool.and_eq_true_iff.1 hf
    obtain ⟨h5, h6⟩ := free_range h2
    split
    · simp
    · rename_i D hD
      have := dsZ_lt (by omega) hD
      simp only
      omega
  · simp
theorem tri_sum {bm gm cm : Nat} {w : World} (hE : EM bm gm cm R C ms w) {a b c x f y g z h : Int} (h1 : distZ R C ms a b [] = (x, f)) (h2 : distZ R C ms b c [] = (y, g)) (h3 : distZ R C ms a c [] = (z, h)) (hf : f = 0) (hg : g = 0) : h = 0 ∧ z ≤ x + y ∧ farZ C ms.length a c ≤ z := by
  subst hf hg
  obtain ⟨A, B, X, rfl, rfl, l1, l2, f1, f2, rfl, d1⟩ := dist_of h1
  obtain ⟨B', K, Y, e, rfl, l3, l4, f3, f4, rfl, d2⟩ := dist_of h2
  obtain rfl : B = B' := by omega
  obtain ⟨Z, hz, dz, h4⟩ := of_dist l1 l4 f1 f4 (d2.1.trans d1.1)
  rw [h3] at h4
  obtain ⟨rfl, rfl⟩ := Prod.mk.inj h4
  refine ⟨rfl, by omega, ?_⟩
  have hl := lftE (E := ⟨bm, gm, cm, R, C, ms, 0, 0, 0, A, 0, []⟩) hE l1
  have h5 := hl.le dz.1
  have h6 : farZ C ms.length (A : Int) (K : Int) = ((lftF ⟨bm, gm, cm, R, C, ms, 0, 0, 0, A, 0, []⟩ K : Nat) : Int) := lft_int (E := ⟨bm, gm, cm, R, C, ms, 0, 0, 0, A, 0, []⟩) l1 l4
  have h7 := hl.zero
  rw [h6]
  simp only at h5 h7
  omega
theorem tri_next (hC : 1 ≤ C) (hN : R * C = ms.length) {a c z h n : Int} {y : Nat} (hy : y ∈ nextZ R C ms a) (h3 : distZ R C ms a c [] = (z, h)) (h4 : distZ R C ms (y : Int) c [] = (n, 0)) : h = 0 ∧ z ≤ n + 1 := by
  unfold nextZ at hy
  split at hy
  · rename_i ha
    obtain ⟨A, rfl⟩ := Int.eq_ofNat_of_zero_le ha.1
    have hy' : y ∈ outs R C ms A := hy
    have hA : A < ms.length := by omega
    obtain ⟨_, _, f1, _, hi, _⟩ := out_facts hC hN hA hy'
    obtain ⟨Y, K, X, e, rfl, l1, l2, f2, f3, rfl, d⟩ := dist_of h4
    obtain rfl : y = Y := by omega
    obtain ⟨Z, hz, dz, h5⟩ := of_dist hA l2 f1 f3 (.step d.1 hi rfl)
    rw [h3] at h5
    obtain ⟨rfl, rfl⟩ := Prod.mk.inj h5
    exact ⟨rfl, by omega⟩
  · simp at hy
end

theorem LstN.at_ {bm : Nat} {w : World} {A : Option Addr} {n c : Nat} {l : List Nat} (h : LstN bm w (.slice A n c) l) {j : Nat} (hj : j < l.length) : ∃ g, A = some ⟨g, 0, none⟩ ∧ g ≠ bm ∧ w.cell? ⟨g, j, none⟩ = some (.int .i64 ((l.getD j 0 : Nat) : Int)) := by
  obtain ⟨a, k, e, hc⟩ := h
  cases e
  exact hc j hj
theorem m1_far {w0 w : World} {bm gm cm R C : Nat} {ms : List UInt8} (h : M1 w0 bm gm cm R C ms w) (hp : 0 < ms.length) {a x v : Int} (hv : farZ C ms.length a x = v) : Calls Tryd.prog 20 #[.pointer (some ⟨bm, 0, none⟩), .int .i64 a, .int .i64 x] w fun e w' => e = .returned (.int .i64 v) ∧ M1 w0 bm gm cm R C ms w' := by
  rw [← hv]
  refine (far_any a x h.em hp).mono ?_
  rintro e w' ⟨rfl, n, rfl⟩
  exact ⟨rfl, h.below (bel_drewN (Below.refl _ _) n)⟩
theorem m1_nextN {w0 w : World} {bm gm cm R C : Nat} {ms : List UInt8} (h : M1 w0 bm gm cm R C ms w) (hp : 0 < ms.length) {i : Int} {l : List Nat} (hl : nextZ R C ms i = l) {n : Nat} (hn : l.length = n) : Calls Tryd.prog 18 #[.pointer (some ⟨bm, 0, none⟩), .int .i64 i] w fun e w' => ∃ a c, e = .returned (.slice a n c) ∧ (M1 w0 bm gm cm R C ms w' ∧ LstN bm w' (.slice a n c) l) := by
  subst hl hn
  refine (next_x i h.em hp).mono ?_
  rintro e w' ⟨v, rfl, he, ht, hk, hr, _⟩
  obtain ⟨a, c, rfl, hl⟩ := lstn_of hr h.lt
  exact ⟨a, c, rfl, h.emx ⟨he, ht, hk⟩, hl⟩

end Go.Proofs.YtkfijjjnidiejaaDoor
