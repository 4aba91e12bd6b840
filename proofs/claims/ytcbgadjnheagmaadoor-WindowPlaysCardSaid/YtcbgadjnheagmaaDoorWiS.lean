/-
  The document's window: the last in order, and a number is met.
-/
import Derived.Test.YtcbgadjnheagmaaDoorWiR
import Derived.Test.YtcbgadjnheagmaaDoorWiM
namespace Go.Proofs.YtcbgadjnheagmaaDoor
set_option maxRecDepth 100000
set_option linter.unusedSimpArgs false
open Go Go.RowKit

namespace Wd
theorem pigeon : ∀ (l : Nat) (L : List Nat), (∀ m, m ≠ 0 → m ≤ l → m ∈ L) → l ≤ L.length
  | 0, _, _ => Nat.zero_le _
  | l + 1, L, h => by
    have h1 := pigeon l (L.filter (fun x => decide (x ≠ l + 1))) (fun m h0 hm => List.mem_filter.2 ⟨h m h0 (by omega), by simp; omega⟩)
    have h2 : l + 1 ∈ L := h (l + 1) (by omega) (Nat.le_refl _)
    have h3 : (L.filter (fun x => decide (x ≠ l + 1))).length < L.length := by
      rw [List.length_filter_lt_length_iff_exists]
      exact ⟨l + 1, h2, by simp⟩
    omega
/-- The list is what the window met. -/
structure Rep (l e : Nat) (L : List Nat) : Prop where
  ok : Ok l e
  rep : ∀ m, has l e m = decide (m ∈ L)
theorem Rep.le {l e : Nat} {L : List Nat} (h : Rep l e L) : l ≤ L.length := pigeon l L (fun m h0 hm => by
  have := h.rep m
  rw [has_low h0 hm] at this
  exact of_decide_eq_true this.symm)
theorem Rep.low {l e : Nat} {L : List Nat} (h : Rep l e L) {m : Nat} (h0 : m ≠ 0) (hm : m ≤ l) : m ∈ L := by
  have := h.rep m
  rw [has_low h0 hm] at this
  exact of_decide_eq_true this.symm
theorem Rep.next {l e : Nat} {L : List Nat} (h : Rep l e L) : l + 1 ∉ L := by
  have := h.rep (l + 1)
  rw [not_next h.ok] at this
  exact of_decide_eq_false this.symm
theorem Rep.bd {l e : Nat} {L : List Nat} (h : Rep l e L) {m : Nat} (hm : m ∈ L) : m ≤ 4294967295 := by
  have h1 := h.rep m
  rw [decide_eq_true hm] at h1
  rcases Nat.lt_or_ge l m with h2 | h2
  · rw [has_high h2] at h1
    have := h.ok.hb _ h1
    omega
  · have := h.ok.hl; omega
theorem Rep.zero : Rep 0 0 [] := ⟨ok_zero, fun m => by
  rcases Nat.eq_zero_or_pos m with rfl | h
  · rfl
  · rw [has_high h, Nat.zero_testBit]; rfl⟩
def putL (l e : Nat) (L : List Nat) (n : Nat) : List Nat := if code l e n = 1 then L ++ [n] else L
theorem Rep.step {l e : Nat} {L : List Nat} (h : Rep l e L) {n : Nat} (hn : n ≤ 4294967295) : Rep (nl l e n) (ne l e n) (putL l e L n) := by
  refine ⟨step_ok h.ok hn, fun m => ?_⟩
  rw [step_has h.ok, h.rep]
  unfold putL
  by_cases hc : code l e n = 1
  · rw [if_pos hc, hc]
    by_cases hm : m = n
    · subst hm; simp
    · simp [hm]
  · rw [if_neg hc, decide_eq_false hc]; simp
theorem putL_len (l e : Nat) (L : List Nat) (n : Nat) : (putL l e L n).length ≤ L.length + 1 := by unfold putL; split <;> simp
end Wd

set_option maxHeartbeats 1000000 in
theorem rlast_any {w : World} {r base l e : Nat} {L : List Nat} (h : RefAt w r base L) (hR : Wd.Rep l e L) (hl : L.length ≤ 10000) :
    Calls Tryd.prog 10 #[.pointer (some ⟨r, 0, none⟩)] w fun x w' => x = .returned (.int .u32 (l : Nat)) ∧ w' = w := by
  obtain ⟨a, c, ⟨c0, c1, _⟩, _, _, _⟩ := h.open_
  have HH : Hid (∀ j : Nat, Calls Tryd.prog 18 #[.pointer (some ⟨r, 0, none⟩), .int .u32 ((j : Int) + 1)] w fun x w' => x = .returned (.bool (decide (j + 1 ∈ L))) ∧ w' = w) := fun j => by
    have := rhas_any (n := j + 1) h (by omega)
    rwa [show (((j + 1 : Nat)) : Int) = (j : Int) + 1 by push_cast; rfl] at this
  have HI : Hid ((∀ j, j < l → j + 1 ∈ L) ∧ l + 1 ∉ L ∧ l ≤ L.length) := ⟨fun j hj => hR.low (by omega) (by omega), hR.next, hR.le⟩
  have HL := Lib.hid hl
  clear h hR hl
  go_enter Tryd.func10, Tryd.ntmps10
  go_wp2
  go_loopw [3, 4] (fun n k wr => ∃ j : Nat, j ≤ l ∧ n = .int .u32 (j : Int) ∧ k = .int .i64 (j : Int) ∧ w = wr) (fun n _ _ => l - (intOf n).toNat)
  case atStart => exact ⟨0, Nat.zero_le _, rfl, rfl, rfl⟩
  case round =>
    obtain ⟨j, hj, rfl, rfl, rfl⟩ := hrel
    have hLL := HI.out.2.2
    have hL2 := HL.out
    have d1 : decide ((j : Int) ≤ (L.length : Int)) = true := by simp; omega
    have d2 : decide (j ≤ L.length) = true := by simp; omega
    have d3 : decide ((j : Int) < 4294967295) = true := by simp; omega
    have q1 : IntKind.u32.wrap ((j : Int) + 1) = (j : Int) + 1 := u32_in (by omega) (by omega)
    have q2 : IntKind.i64.wrap ((j : Int) + 1) = (j : Int) + 1 := IntWalk.i64_in _ (by omega)
    have HX := Lib.hid hj
    clear hLL hL2
    go_wp2_with fail
    refine (HH.out j).mono ?_
    rintro x w2 ⟨rfl, hw2⟩
    rw [hw2]
    clear hw2 w2
    by_cases hjl : j < l
    · rw [decide_eq_true (HI.out.1 j hjl)]
      have HJ := Lib.hid hjl
      clear hj hjl
      go_wp2
      exact ⟨⟨j + 1, HJ.out, by push_cast; rfl, by push_cast; rfl, by trivial⟩, by simp [intOf]; have := HJ.out; omega⟩
    · obtain rfl : j = l := by omega
      rw [decide_eq_false HI.out.2.1]
      clear hj hjl
      go_wp2
      go_ret
      exact ⟨rfl, rfl⟩

/-- What the document's Meet leaves. -/
def RMeetP (w : World) (r base l e : Nat) (L : List Nat) (n : Nat) (x : Ending) (w' : World) : Prop :=
  x = .returned (.int .i64 (Wd.code l e n : Nat)) ∧ RefAt w' r base (Wd.putL l e L n) ∧ Kept (fun k => k = r ∨ base ≤ k) w w'

set_option maxHeartbeats 2000000 in
theorem rmeet_any {w : World} {r base l e n : Nat} {L : List Nat} (h : RefAt w r base L) (hb : base ≤ w.heap.size) (hR : Wd.Rep l e L) (hl : L.length ≤ 10000) (hn : n ≤ 4294967295) :
    Calls Tryd.prog 9 #[.pointer (some ⟨r, 0, none⟩), .int .u32 (n : Nat)] w (RMeetP w r base l e L n) := by
  obtain ⟨P, hP⟩ : ∃ P : Ending → World → Prop, P = RMeetP w r base l e L n := ⟨_, rfl⟩
  have HQ : Hid (∀ w', RefAt w' r base (Wd.putL l e L n) → Kept (fun k => k = r ∨ base ≤ k) w w' → P (.returned (.int .i64 (Wd.code l e n : Nat))) w') := by rw [hP]; exact fun w' h1 h2 => ⟨rfl, h1, h2⟩
  have HH := Lib.hid (rhas_any (n := n) h (by omega))
  have HLA := Lib.hid (rlast_any h hR hl)
  rw [← hP]
  clear hP
  by_cases h0 : n = 0
  · subst h0
    have hc : Wd.code l e 0 = 0 := rfl
    have HF := Lib.hid (HQ.out w (by unfold Wd.putL; rw [hc]; exact h) (Kept.refl _ _))
    rw [hc] at HF
    clear h HQ HH HLA hR hc
    go_enter Tryd.func9, Tryd.ntmps9
    go_wp2
    exact HF.out
  · have e0 : ((n : Int) == 0) = false := by
      have : ¬ (n : Int) = 0 := by omega
      simpa using this
    rw [← hR.rep] at HH
    by_cases h1 : Wd.has l e n = true
    · have hc : Wd.code l e n = 2 := by unfold Wd.code; rw [if_neg h0, if_pos h1]
      have HF := Lib.hid (HQ.out w (by unfold Wd.putL; rw [hc]; exact h) (Kept.refl _ _))
      rw [hc] at HF
      rw [h1] at HH
      clear h HQ HLA hR hc h1 h0
      go_enter Tryd.func9, Tryd.ntmps9
      go_wp2_with fail
      refine HH.out.mono ?_
      rintro x w2 ⟨rfl, hw2⟩
      rw [hw2]
      clear hw2 w2
      go_wp2
      exact HF.out
    · have h1' : Wd.has l e n = false := by simpa using h1
      rw [h1'] at HH
      have hl2 := hR.ok.hl
      have w1 : IntKind.u64.wrap ((l : Int) + 64) = (l : Int) + 64 := by rw [IntKind.wrap_u64]; omega
      have w2 : IntKind.u64.wrap (l : Int) = (l : Int) := by rw [IntKind.wrap_u64]; omega
      have w3 : IntKind.u64.wrap (n : Int) = (n : Int) := by rw [IntKind.wrap_u64]; omega
      by_cases h2 : l + 64 < n
      · have hc : Wd.code l e n = 3 := by unfold Wd.code; rw [if_neg h0, if_neg h1, if_pos h2]
        have HF := Lib.hid (HQ.out w (by unfold Wd.putL; rw [hc]; exact h) (Kept.refl _ _))
        rw [hc] at HF
        have d1 : decide ((l : Int) + 64 < (n : Int)) = true := by simp; omega
        clear h HQ hR hc h1 h1' h0 h2
        go_enter Tryd.func9, Tryd.ntmps9
        go_wp2_with fail
        refine HH.out.mono ?_
        rintro x w4 ⟨rfl, hw4⟩
        rw [hw4]
        clear hw4 w4
        go_wp2_with fail
        refine HLA.out.mono ?_
        rintro x w4 ⟨rfl, hw4⟩
        rw [hw4]
        clear hw4 w4
        go_wp2
        exact HF.out
      · have hc : Wd.code l e n = 1 := by unfold Wd.code; rw [if_neg h0, if_neg h1, if_neg h2]
        have HF : Hid (∀ w', RefAt w' r base (L ++ [n]) → Kept (fun k => k = r ∨ base ≤ k) w w' → P (.returned (.int .i64 1)) w') := by
          have := HQ.out
          unfold Wd.putL at this
          rw [hc, if_pos rfl] at this
          exact this
        have d1 : decide ((l : Int) + 64 < (n : Int)) = false := by simp; omega
        obtain ⟨i0, hi, hz0, hz1, hz2⟩ := info_parts Tryd.infoU32
        obtain ⟨a, c, ⟨c0, c1, f1⟩, hblk, hown, _⟩ := h.open_
        have hrb := h.1
        obtain ⟨v0, hv0⟩ : ∃ v0, v0 = Value.slice a L.length c := ⟨_, rfl⟩
        have hne : ∀ k, v0.ownBlock = some k → base ≤ k := fun k e => (hown.lt k (hv0 ▸ e)).1
        rw [← hv0] at c1 hown hblk
        have HN : Hid (∀ W2 v', (w.alloc (.cells #[.int .u32 (n : Int)] 23)).grownBy W2 v0.ownBlock → W2.ownsRow base 23 1 v' (L.length + 1) (L.map u32V ++ [u32V n]) →
            (W2.cell? ⟨r, 1, none⟩ = some v0 ∧ W2.frozen? ⟨r, 1, none⟩ = false) ∧ P (.returned (.int .i64 1)) (W2.setCell ⟨r, 1, none⟩ v')) := by
          intro W2 v' hg ho'
          have hrw := blk_lt hblk
          have hr2 : W2.heap[r]? = some (.cells #[.int .u32 0, v0] 30 (0, 0)) := by
            rw [hg.block r (by rw [World.size_alloc]; omega) (fun e => by have := hne r e.symm; omega), Below.heap_alloc _ _ _ hrw]; exact hblk
          refine ⟨⟨by rw [blk_cell hr2]; rfl, blk_free hr2 1⟩, HF.out _ ⟨hrb, v', by rw [blk_set hr2]; rfl, ?_⟩ ?_⟩
          · have e1 : (L ++ [n]).map u32V = L.map u32V ++ [u32V n] := by simp
            have e2 : (L ++ [n]).length = L.length + 1 := by simp
            rw [e1, e2]
            exact owns_set ho' hrb _
          · exact (((Kept.refl _ w).alloc _).grown hg (fun k e => .inl (.inr (hne k e)))).setCell (p := ⟨r, 1, none⟩) (.inl (.inl rfl)) _
        have HNe := Lib.hid (World.news_of_block (heap_alloc_new w (.cells #[.int .u32 (n : Int)] 23)))
        have HV := Lib.hid hown
        clear h HQ hR hc h1 h1' h0 h2 HF hne hown hblk hrb hv0
        generalize hM : L.length = M at *
        clear hM
        go_enter Tryd.func9, Tryd.ntmps9
        go_wp2_with fail
        refine HH.out.mono ?_
        rintro x w4 ⟨rfl, hw4⟩
        rw [hw4]
        clear hw4 w4
        go_wp2_with fail
        refine HLA.out.mono ?_
        rintro x w4 ⟨rfl, hw4⟩
        rw [hw4]
        clear hw4 w4
        go_wp2_with (at_builtin; refine wpList_append_own _ rfl (.tmp 25) (.tmp 27) 22 rfl base 23 i0 (.int .u32 0) 1 4 Tryd.underlying22 hi hz0 hz1 hz2 rfl (by decide) v0 M _ rfl (HV.out.alloc _) ⟨w.heap.size, 0, none⟩ 1 1 [u32V n] rfl rfl HNe.out (by intro u hu; simp at hu; subst hu; rfl) (by unfold maxLen; omega) (by omega) (by simp; omega) ?_; intro v' W2 hown' hgrow _; obtain ⟨⟨hq1, hq2⟩, hq3⟩ := HN.out _ _ hgrow hown'; obtain ⟨g', cap', rfl⟩ := ownsRow_succ hown'; have HZ := Lib.hid hq3; clear hown' hgrow hq3)
        exact HZ.out
end Go.Proofs.YtcbgadjnheagmaaDoor
