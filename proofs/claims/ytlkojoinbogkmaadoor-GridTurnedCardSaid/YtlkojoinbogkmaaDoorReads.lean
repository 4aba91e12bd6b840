/-
  The walk of the law GridReads.
-/
import Derived.Test.YtlkojoinbogkmaaDoorW6
namespace Go.Proofs.YtlkojoinbogkmaaDoor
set_option maxRecDepth 100000
open Go.RowKit

theorem neq0 (c : UInt8) : ((c.toNat : Int) != 0) = (c != 0) := by
  have h : ∀ n : Fin 256, ((n.val : Int) != 0) = (UInt8.ofNat n.val != 0) := by decide +kernel
  have := h ⟨c.toNat, c.toNat_lt⟩
  simpa using this

theorem flat_ok {L : List (List UInt8)} (hg : Pure.Good L) {k : Nat} (hk : k < L.flatten.length) : Pure.okc (L.flatten.getD k 0) = true := by
  have : L.flatten.getD k 0 = L.flatten[k] := by simp only [List.getD, List.getElem?_eq_getElem hk, Option.getD_some]
  rw [this]
  obtain ⟨x, hx, hc⟩ := List.mem_flatten.1 (List.getElem_mem hk)
  exact hg.ok x hx _ hc

theorem freeB_kind {L : List (List UInt8)} (hg : Pure.Good L) (i : Int) : (kindB L.flatten i != 0 && kindB L.flatten i != 35) = freeB L.flatten i := by
  by_cases h : 0 ≤ i ∧ i < (L.flatten.length : Int)
  · have hk := flat_ok hg (k := i.toNat) (by omega)
    have h0 : (L.flatten.getD i.toNat 0 != 0) = true := by
      rw [bne_iff_ne]; intro e; rw [e] at hk; exact absurd hk (by decide)
    unfold kindB freeB
    rw [if_pos h, h0, decide_eq_true h.1, decide_eq_true h.2]
    rfl
  · have e1 : kindB L.flatten i = 0 := by unfold kindB; rw [if_neg h]
    have e2 : freeB L.flatten i = false := by
      unfold freeB
      by_cases h1 : 0 ≤ i
      · rw [decide_eq_false (fun e => h ⟨h1, e⟩)]; simp
      · rw [decide_eq_false h1]; rfl
    rw [e1, e2]; rfl

set_option maxHeartbeats 400000 in
theorem rfree_any {b g cap : Nat} {Q : List ByteArray} {w : World} (i : Int) (h : RefAt w b g cap Q) (hg : Pure.Good (lsts Q)) :
    Calls Tryd.prog 35 #[.pointer (some ⟨b, 0, none⟩), .int .i64 i] w fun e w' => e = .returned (.bool (freeB (lsts Q).flatten i)) ∧ ∃ n, w' = w.drewN n := by
  have HK : Hid (∀ w', RefAt w' b g cap Q → Calls Tryd.prog 37 #[.pointer (some ⟨b, 0, none⟩), .int .i64 i] w' fun e w'' => e = .returned (.int .u8 ((kindB (lsts Q).flatten i).toNat : Int)) ∧ ∃ n, w'' = w'.drewN n) := fun w' h => rkind_any i h hg
  have HR : Hid (RefAt w b g cap Q) := h
  have HF : Hid (((((kindB (lsts Q).flatten i).toNat : Int) != 0) && (((kindB (lsts Q).flatten i).toNat : Int) != 35)) = freeB (lsts Q).flatten i) := by
    show _ = _
    rw [neq0, neq35, freeB_kind hg]
  clear h hg
  generalize kindB (lsts Q).flatten i = c at HK HF
  generalize freeB (lsts Q).flatten i = f at HF ⊢
  go_enter Tryd.func35, Tryd.ntmps35
  go_wp2_with (go_at_call 37; (with_reducible refine (HK.out _ HR.out).mono ?_); rintro e w' ⟨rfl, n, rfl⟩)
  all_goals
    go_ret
    refine ⟨?_, _, rfl⟩
    have hf := HF.out
    simp_all
end Go.Proofs.YtlkojoinbogkmaaDoor
