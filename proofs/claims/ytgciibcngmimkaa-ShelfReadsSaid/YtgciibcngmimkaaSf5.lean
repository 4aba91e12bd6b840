/-
  shelf.Get.
-/
import Derived.Test.YtgciibcngmimkaaSf4
namespace Go.Proofs.Ytgciibcngmimkaa
set_option maxRecDepth 100000
set_option linter.unusedSimpArgs false
open Go Go.RowKit Sf

namespace Sf
def gB (M : List Ent) (k n : Int) : Bool := may ⟨k, n, []⟩ && hasM M (pl ⟨k, n, []⟩)
def gD (M : List Ent) (k n : Int) : List Nat := if may ⟨k, n, []⟩ then getM M (pl ⟨k, n, []⟩) else []
end Sf
theorem get_none (w : World) (k n : Int) :
    Calls Try.prog 17 #[.pointer none, .int .i64 k, .int .i64 n] w fun e w' => e = .returned (.tuple #[.slice none 0 0, .bool false]) ∧ w = w' := by
  go_enter Try.func17, Try.ntmps17
  go_wp2
  exact bodyPost_ret (v := .tuple #[.slice none 0 0, .bool false]) (by simp [results, Try.results17, go_sem]) rfl ⟨rfl, rfl⟩
/-- What a Get leaves. -/
def GetQ (w : World) (M : List Ent) (k n : Int) (e : Ending) (w' : World) : Prop :=
  ∃ v, e = .returned (.tuple #[v, .bool (gB M k n)]) ∧ R8 w' v (gD M k n) ∧ Below w.heap.size w w'
section
variable {w : World} {b N : Nat} {mo : Option Nat} {M : List Ent}
set_option maxHeartbeats 1000000 in
theorem get_any (h : ShAt w b mo N M) (k n : Int) :
    Calls Try.prog 17 #[.pointer (some ⟨b, 0, none⟩), .int .i64 k, .int .i64 n] w (GetQ w M k n) := by
  obtain ⟨P, hP⟩ : ∃ P, P = GetQ w M k n := ⟨_, rfl⟩
  cases hm : may ⟨k, n, []⟩ with
  | false =>
    have HF : Hid (∀ w', Below w.heap.size w w' → P (.returned (.tuple #[.slice none 0 0, .bool false])) w') := by
      intro w' hb
      rw [hP]
      refine ⟨.slice none 0 0, ?_, ?_, hb⟩
      · rw [gB, hm]; rfl
      · rw [gD, hm]; exact R8.nil w'
    have HC : Hid (∀ W, Calls Try.prog 10 #[recA k n none 0 0] W fun e w' => e = .returned (.int .i64 130) ∧ Below W.heap.size W w') := by
      intro W
      refine (check_any W k n none 0 0).mono ?_
      rintro e w' ⟨rfl, rfl⟩
      exact ⟨by rw [ckV, show ckB k n 0 = may ⟨k, n, []⟩ from rfl, hm]; rfl, (Below.refl _ _).alloc (Nat.le_refl _) _⟩
    rw [← hP]
    clear h hm hP
    go_enter Try.func17, Try.ntmps17
    go_wp2_with fail
    (with_reducible refine (HC.out _).mono ?_)
    rintro e w1 ⟨rfl, hb⟩
    have HF1 := Lib.hid (HF.out _ hb)
    clear hb HF HC
    go_wp2
    exact HF1.out
  | true =>
    obtain ⟨kn, nn, hk, hn, hk1, hn1, hp⟩ := place_r hm
    simp only at hk hn
    subst hk hn
    have HC : Hid (∀ W, Calls Try.prog 10 #[recA kn nn none 0 0] W fun e w' => e = .returned (.int .i64 0) ∧ w' = W.alloc (recO kn nn none 0 0)) := fun W => check_good (r := ⟨kn, nn, []⟩) W hm
    obtain ⟨w2, hw2⟩ : ∃ w2, w2 = w.alloc (recO kn nn none 0 0) := ⟨_, rfl⟩
    have hb2 : Below w.heap.size w w2 := by rw [hw2]; exact (Below.refl _ w).alloc (Nat.le_refl _) _
    have h2 := h.below hb2
    have hpl : pl ⟨kn, nn, []⟩ < 1000000000000 := by omega
    obtain ⟨v, hlk, hv⟩ := h2.look hpl
    have hPl : ∀ W, Calls Try.prog 27 #[.int .i64 (kn : Int), .int .i64 (nn : Int)] W fun e w' => e = .returned (.int .i64 (pl ⟨kn, nn, []⟩ : Nat)) ∧ w' = W := fun W => by
      rw [hp]
      exact (place_any W (by omega) (by omega)).mono (fun e w' h => ⟨h.1, h.2.symm⟩)
    have HPl := Lib.hid hPl
    have HF : Hid (∀ v' w', R8 w' v' (getM M (pl ⟨kn, nn, []⟩)) → Below w.heap.size w w' → P (.returned (.tuple #[v', .bool (hasM M (pl ⟨kn, nn, []⟩))])) w') := by
      intro v' w' h1 h2
      rw [hP]
      refine ⟨v', ?_, ?_, h2⟩
      · rw [gB, hm]; rfl
      · rw [gD, hm]; exact h1
    have hlen : (getM M (pl ⟨kn, nn, []⟩)).length ≤ 1024 := by
      cases hh : hasM M (pl ⟨kn, nn, []⟩) with
      | false => rw [getM_none hh]; simp
      | true =>
        obtain ⟨e, he, e2⟩ := hasM_iff.1 hh
        rw [← e2, getM_of h.ok.srt he]; exact (h.ok.each e he).len
    have HCl : Hid (∀ W, Below w2.heap.size w2 W → Calls Try.prog 28 #[v] W fun e w' => ∃ v', e = .returned v' ∧ R8 w' v' (getM M (pl ⟨kn, nn, []⟩)) ∧ Below w.heap.size w w') := by
      intro W hW
      refine (clone8 (hv.below hW) (by omega)).mono ?_
      rintro e w' ⟨v', rfl, h1, h3⟩
      exact ⟨v', rfl, R8.of h1, (hb2.trans (hW.mono hb2.size)).trans (h3.mono (Nat.le_trans hb2.size hW.size))⟩
    have hld := fun n => (hlk (w2.drewN n) (fun _ _ => rfl)).1
    have c0 := blk_cell h2.blk 0
    simp at c0
    generalize pl ⟨kn, nn, []⟩ = p at *
    generalize hasM M p = hh at *
    generalize getM M p = d at *
    rw [← hP]
    have HB2 := Lib.hid hb2
    have HW2 := Lib.hid hw2
    clear h h2 hm hP hb2 hp hv hPl hpl hlen hlk
    go_enter Try.func17, Try.ntmps17
    go_wp2_with fail
    (with_reducible refine (HC.out _).mono ?_)
    rintro e w1 ⟨rfl, rfl⟩
    rw [← HW2.out]
    clear hw2 HW2
    go_upto_region 3 with fail
    go_quiet ((go_at_call 27; exact Calls.quiet_of_same (HPl.out _)))
    have hb3 : Below w2.heap.size w2 (w2.drewN nq) := ⟨rfl, rfl, rfl, Nat.le_refl _, fun _ _ => rfl⟩
    have HC2 := Lib.hid (HCl.out _ hb3)
    clear hb3 HCl hld
    go_wp2_with fail
    (with_reducible refine HC2.out.mono ?_)
    rintro e w5 ⟨v5, rfl, h5, hb5⟩
    have HF5 := Lib.hid (HF.out _ _ h5 hb5)
    clear h5 hb5
    go_wp2
    exact HF5.out
end
end Go.Proofs.Ytgciibcngmimkaa
