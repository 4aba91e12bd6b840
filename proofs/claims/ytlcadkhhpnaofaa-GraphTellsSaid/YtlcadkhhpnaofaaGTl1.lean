/-
  The law GraphTells: both graphs in memory, from call to call.
-/
import Derived.Test.YtlcadkhhpnaofaaGTl0
namespace Go.Proofs.Ytlcadkhhpnaofaa
set_option maxRecDepth 100000
open Go Go.RowKit Gq

structure TI (w : World) (b r k : Nat) (E : Nat → Nat → Bool) (R : Gr) (wr : World) : Prop where
  ex : ∃ S Z, GAt wr b R S ∧ RAt wr r k E Z ∧ (∀ j, S j → ¬ Z j) ∧ (∀ j, S j → w.heap.size ≤ j) ∧ (∀ j, Z j → w.heap.size ≤ j)
  ok : Ok R
  len : R.length = k
  lo : Below w.heap.size w wr

section
variable {w wr w' : World} {b r k : Nat} {E : Nat → Nat → Bool} {R : Gr}
theorem TI.below (h : TI w b r k E R wr) (hb : Below wr.heap.size wr w') : TI w b r k E R w' := by
  obtain ⟨⟨S, Z, h1, h2, h3⟩, h4, h5, h6⟩ := h
  exact ⟨⟨S, Z, h1.below hb (Nat.le_refl _), h2.below hb, h3⟩, h4, h5, h6.trans (hb.mono h6.size)⟩
theorem TI.still (h : TI w b r k E R wr) (hs : Still wr w') : TI w b r k E R w' := h.below (hs.below (fun _ h => h.elim) (Nat.le_refl _))

theorem isNode_nat {n x : Nat} (h : x < n) : isNode n (x : Int) = true := by simp [isNode, h]

/-- One edge more, of both: which both answer the same, and have it then, or not. -/
theorem tl_more (h : TI w b r k E R wr) (hs : Says E R) (hk : k ≤ 1024) (x y : Int) :
    ∃ (z : Int) (hb : Bool) (R' : Gr) (E' : Nat → Nat → Bool), Says E' R' ∧
      Calls Try.prog 8 #[.pointer (some ⟨b, 0, none⟩), .int .i64 x, .int .i64 y] wr (fun e w1 => e = .returned (.int .i64 z) ∧ TI w b r k E R' w1) ∧
      (∀ W, TI w b r k E R' W → Calls Try.prog 9 #[.pointer (some ⟨r, 0, none⟩), .int .i64 x, .int .i64 y] W fun e w2 => e = .returned (.int .i64 z) ∧ TI w b r k E' R' w2) ∧
      (∀ W, TI w b r k E' R' W → Calls Try.prog 10 #[.pointer (some ⟨b, 0, none⟩), .int .i64 x, .int .i64 y] W fun e w2 => e = .returned (.bool hb) ∧ TI w b r k E' R' w2) ∧
      (∀ W, TI w b r k E' R' W → Calls Try.prog 11 #[.pointer (some ⟨r, 0, none⟩), .int .i64 x, .int .i64 y] W fun e w2 => e = .returned (.bool hb) ∧ TI w b r k E' R' w2) := by
  by_cases hg : isNode k x = true ∧ isNode k y = true ∧ x ≠ y
  · obtain ⟨h1, h2, h3⟩ := hg
    obtain ⟨a, rfl, ha⟩ := node_nat h1
    obtain ⟨c, rfl, hc⟩ := node_nat h2
    have hac : a ≠ c := fun e => h3 (by rw [e])
    have hl := h.len
    have hSays : Says (setE E a c) (addE R a c) := by
      intro u v hu hv
      rw [addE_length] at hu hv
      rw [row_addE (by omega)]
      unfold setE
      by_cases e : u = a
      · subst e
        rw [if_pos rfl, mem_insN]
        by_cases e2 : v = c
        · rw [if_pos ⟨rfl, e2⟩]; simp [e2]
        · rw [if_neg (fun h => e2 h.2), hs u v hu hv]; simp [e2]
      · rw [if_neg (fun h => e h.1), if_neg e]
        exact hs u v hu hv
    refine ⟨0, true, addE R a c, setE E a c, hSays, ?_, fun W hW => ?_, fun W hW => ?_, fun W hW => ?_⟩
    · obtain ⟨⟨S, Z, g1, g2, g3, g4, g5⟩, hO, _, hlo⟩ := h
      refine (add_any g1 hO (a := a) (x := c) (by omega) (by omega) hac).mono ?_
      rintro e w1 ⟨rfl, S', f1, f2, f3⟩
      refine ⟨rfl, ⟨S', Z, f1, g2.kept f3 (fun j hz hs => g3 j hs hz), fun j hj hz => ?_, fun j hj => ?_, g5⟩, addE_ok hO (by omega) (by omega) hac, by rw [addE_length]; exact hl, hlo.trans (f3.below g4 hlo.size)⟩
      · rcases f2 j hj with h | h
        · exact g3 j h hz
        · have := g2.lt j hz; omega
      · rcases f2 j hj with h | h
        · exact g4 j h
        · exact Nat.le_trans hlo.size h
    · obtain ⟨⟨S, Z, g1, g2, g3, g4, g5⟩, hO, hl', hlo⟩ := hW
      refine (rAdd_any g2 hk ha hc hac).mono ?_
      rintro e w1 ⟨rfl, f1, f2⟩
      exact ⟨rfl, ⟨S, Z, g1.kept f2 g3, f1, g3, g4, g5⟩, hO, hl', hlo.trans (f2.below g5 hlo.size)⟩
    · have hW' := hW
      obtain ⟨⟨S, Z, g1, g2, g3, g4, g5⟩, hO, hl', hlo⟩ := hW
      refine (gHas_any g1 hO (a := a) (by omega) c).mono ?_
      rintro e w1 ⟨rfl, q, rfl⟩
      have hm : c ∈ row (addE R a c) a := by rw [row_addE (by omega), if_pos rfl]; exact mem_insN.2 (.inl rfl)
      exact ⟨by rw [decide_eq_true hm], hW'.still ((Kept.refl _ W).drewN q)⟩
    · have hW' := hW
      obtain ⟨⟨S, Z, g1, g2, g3, g4, g5⟩, hO, hl', hlo⟩ := hW
      refine (rHas_any g2 hk (a : Int) (c : Int)).mono ?_
      rintro e w1 ⟨rfl, hw⟩
      obtain rfl := hw.symm
      refine ⟨?_, hW'⟩
      congr 2
      unfold hasR
      rw [h1, h2]
      simp [setE]
  · have hl := h.len
    have hb : ∃ hb : Bool, hb = hasR k E x y := ⟨_, rfl⟩
    obtain ⟨hb, hhb⟩ := hb
    refine ⟨20, hb, R, E, hs, ?_, fun W hW => ?_, fun W hW => ?_, fun W hW => ?_⟩
    · have hW' := h
      obtain ⟨⟨S, Z, g1, g2, g3, g4, g5⟩, hO, _, hlo⟩ := h
      refine (add_out g1 (a := x) (x := y) (by rw [hl]; exact hg)).mono ?_
      rintro e w1 ⟨rfl, hw⟩
      obtain rfl := hw.symm
      exact ⟨rfl, hW'⟩
    · have hW' := hW
      obtain ⟨⟨S, Z, g1, g2, g3, g4, g5⟩, hO, hl', hlo⟩ := hW
      refine (rAdd_out g2 hk hg).mono ?_
      rintro e w1 ⟨rfl, hw⟩
      obtain rfl := hw.symm
      exact ⟨rfl, hW'⟩
    · have hW' := hW
      obtain ⟨⟨S, Z, g1, g2, g3, g4, g5⟩, hO, hl', hlo⟩ := hW
      cases hx : isNode k x with
      | false =>
        refine (gHas_out g1 (a := x) (by rw [hl]; exact hx) y).mono ?_
        rintro e w1 ⟨rfl, hw⟩
        obtain rfl := hw.symm
        refine ⟨?_, hW'⟩
        rw [hhb]
        simp [hasR, hx]
      | true =>
        obtain ⟨a, rfl, ha⟩ := node_nat hx
        refine (gHasI_any g1 hO (a := a) (by omega) y).mono ?_
        rintro e w1 ⟨rfl, q, rfl⟩
        refine ⟨?_, hW'.still ((Kept.refl _ W).drewN q)⟩
        rw [hhb]
        congr 2
        unfold hasR
        rw [hx]
        rw [Bool.eq_iff_iff]
        simp only [Bool.true_and, Bool.and_eq_true, List.contains_iff_mem]
        constructor
        · intro hm
          obtain ⟨c, hc, rfl⟩ : ∃ c, c ∈ row R a ∧ ((c : Nat) : Int) = y := by simpa [ints] using hm
          have hcl := hO.node _ _ hc
          refine ⟨isNode_nat (by omega), ?_⟩
          rw [Int.toNat_natCast, Int.toNat_natCast]
          exact (hs a c (by omega) hcl).2 hc
        · rintro ⟨hy, hE⟩
          obtain ⟨c, rfl, hc⟩ := node_nat hy
          rw [Int.toNat_natCast, Int.toNat_natCast] at hE
          have := (hs a c (by omega) (by omega)).1 hE
          simp only [ints, List.mem_map]
          exact ⟨c, this, rfl⟩
    · have hW' := hW
      obtain ⟨⟨S, Z, g1, g2, g3, g4, g5⟩, hO, hl', hlo⟩ := hW
      refine (rHas_any g2 hk x y).mono ?_
      rintro e w1 ⟨rfl, hw⟩
      obtain rfl := hw.symm
      exact ⟨by rw [hhb], hW'⟩
end
end Go.Proofs.Ytlcadkhhpnaofaa
