/-
  The laws' helper built: a graph of edges.
-/
import Derived.Test.YtlcadkhhpnaofaaGL2
import Derived.Test.YtlcadkhhpnaofaaGArg
namespace Go.Proofs.Ytlcadkhhpnaofaa
set_option maxRecDepth 100000
open Go Go.RowKit Gq

theorem addI_node {R : Gr} {e : Ed} : (isNode R.length e.1 = true ∧ isNode R.length e.2 = true ∧ e.1 ≠ e.2) ↔ (0 ≤ e.1 ∧ e.1 < R.length ∧ 0 ≤ e.2 ∧ e.2 < R.length ∧ e.1 ≠ e.2) := by
  simp only [isNode, Bool.and_eq_true, decide_eq_true_eq]
  omega
/-- Add of any two numbers. -/
theorem addI_any {w : World} {b : Nat} {R : Gr} {S : Nat → Prop} (h : GAt w b R S) (hO : Ok R) (x : Ed) :
    Calls Try.prog 8 #[.pointer (some ⟨b, 0, none⟩), .int .i64 x.1, .int .i64 x.2] w fun e w' => (∃ z, e = .returned (.int .i64 z)) ∧ ∃ S', GAt w' b (addI R x) S' ∧ (∀ k, S' k → S k ∨ w.heap.size ≤ k) ∧ Kept S w w' := by
  by_cases hx : 0 ≤ x.1 ∧ x.1 < R.length ∧ 0 ≤ x.2 ∧ x.2 < R.length ∧ x.1 ≠ x.2
  · have e1 : x.1 = ((x.1.toNat : Nat) : Int) := by omega
    have e2 : x.2 = ((x.2.toNat : Nat) : Int) := by omega
    have := add_any h hO (a := x.1.toNat) (x := x.2.toNat) (by omega) (by omega) (by omega)
    rw [← e1, ← e2] at this
    refine this.mono ?_
    rintro e w' ⟨rfl, S', h1, h2, h3⟩
    refine ⟨⟨_, rfl⟩, S', ?_, h2, h3⟩
    unfold addI
    rw [if_pos hx]
    exact h1
  · refine (add_out h (a := x.1) (x := x.2) (fun hn => hx (addI_node.1 hn))).mono ?_
    rintro e w' ⟨rfl, hw⟩
    obtain rfl := hw.symm
    refine ⟨⟨_, rfl⟩, S, ?_, fun k hk => .inl hk, Kept.refl _ _⟩
    unfold addI
    rw [if_neg hx]
    exact h
theorem take_snoc_ed {l : List Ed} {k : Nat} (h : k < l.length) : l.take (k + 1) = l.take k ++ [ed l k] := by
  rw [List.take_succ_eq_append_getElem h, ed_get h]

set_option maxHeartbeats 2000000 in
theorem built_any {w : World} {A : Option Addr} {cap n : Nat} {l : List Ed} (h : EdgesAt w A l) (hl : l.length ≤ maxLen) (hn : n ≤ 1024) :
    Calls Try.prog 24 #[.int .i64 (n : Int), .slice A l.length cap] w fun e w' => ∃ b, e = .returned (.pointer (some ⟨b, 0, none⟩)) ∧ GraphPost w (Gq.built n l) b w' := by
  have HE := Lib.hid h
  unfold maxLen at hl
  clear h
  obtain ⟨L, hL⟩ : ∃ L, L = l.length := ⟨_, rfl⟩
  rw [← hL] at hl ⊢
  have HL := Lib.hid hL
  clear hL
  go_enter Try.func24, Try.ntmps24
  go_wp2_with fail
  refine (new_any w hn).mono ?_
  rintro e w1 ⟨b, rfl, hg⟩
  have HG : Hid (GraphPost w (Gq.built n (l.take 0)) b w1) := by
    show GraphPost _ _ _ _
    rw [List.take_zero]; exact hg
  clear hg
  go_wp2
  go_loopw [17] (fun u wr => ∃ k : Nat, k ≤ L ∧ u = .int .i64 (k : Int) ∧ GraphPost w (Gq.built n (l.take k)) b wr) (fun u _ => L - (intOf u).toNat)
  case atStart => exact ⟨0, Nat.zero_le _, rfl, HG.out⟩
  case round =>
    obtain ⟨k, hk, rfl, hgr⟩ := hrel
    clear HG
    by_cases hlt : k < L
    · obtain ⟨S, hg, hS, hb⟩ := hgr
      have hkl : k < l.length := by rw [← HL.out]; exact hlt
      obtain ⟨a, rfl, ha, f0, f1⟩ := (HE.out.below hb (Nat.le_refl _)) k hkl
      have HC : Hid (Calls Try.prog 8 #[.pointer (some ⟨b, 0, none⟩), .int .i64 (ed l k).1, .int .i64 (ed l k).2] wr.drew fun e w' => (∃ z, e = .returned (.int .i64 z)) ∧ GraphPost w (Gq.built n (l.take (k + 1))) b w') := by
        refine (addI_any (hg.still (Kept.refl _ wr).drew) (built_ok hn _) (ed l k)).mono ?_
        rintro e w' ⟨h0, S', h1, h2, h3⟩
        refine ⟨h0, ?_⟩
        rw [take_snoc_ed hkl, built_snoc]
        refine ⟨S', h1, fun i hi => ?_, hb.trans ((Below.refl _ _).trans (((Kept.refl S wr).drew.trans h3 (fun _ _ h => h)).below hS hb.size))⟩
        rcases h2 i hi with h4 | h4
        · exact hS i h4
        · exact Nat.le_trans hb.size h4
      clear hg hS hb hkl
      have f2 : wr.cell? ⟨(a.add (k * 2)).block, (a.add (k * 2)).off + 1, none⟩ = some (.int .i64 (ed l k).2) := f1
      clear f1
      generalize ed l k = x at *
      obtain ⟨x1, x2⟩ := x
      simp only at *
      have k0 : (0 : Int) ≤ (k : Int) := by omega
      have k1 : (k : Int) < (L : Int) := by omega
      go_wp2
      go_still_tail 11, (by kernel_rfl)
      change wpList _ _ _ _ _ wr.drew
      go_wp2_with fail
      refine HC.out.mono ?_
      rintro e w' ⟨⟨z, rfl⟩, hq⟩
      have HQ := Lib.hid hq
      clear hq HC
      go_wp2
      go_roundw
      case rel => exact ⟨k + 1, by omega, by go_num, HQ.out⟩
      case measure => simp [intOf]; omega
    · obtain rfl : k = L := by omega
      have HQ : Hid (GraphPost w (Gq.built n l) b wr) := by
        rw [List.take_of_length_le (by rw [← HL.out]; exact Nat.le_refl _)] at hgr
        exact hgr
      clear hgr
      go_wp2
      go_ret
      exact ⟨b, rfl, HQ.out⟩
end Go.Proofs.Ytlcadkhhpnaofaa
