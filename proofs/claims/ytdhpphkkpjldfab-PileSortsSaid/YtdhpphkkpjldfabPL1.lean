/-
  The laws' example: some, alive.
-/
import Derived.Test.YtdhpphkkpjldfabPW11
import Derived.Deep.QuietTactic
import Derived.BigQuiet
namespace Go.Proofs.Ytdhpphkkpjldfab
set_option maxRecDepth 100000
open Go Go.RowKit Pq

def its : List It := [⟨5, 0, 1⟩, ⟨3, 9, 2⟩, ⟨3, 1, 3⟩, ⟨3, 1, 3⟩]
theorem srt_its : srt its = [⟨3, 1, 3⟩, ⟨3, 1, 3⟩, ⟨3, 9, 2⟩, ⟨5, 0, 1⟩] := by decide
theorem take_snoc {l : List It} {k : Nat} (h : k < l.length) : l.take (k + 1) = l.take k ++ [at_ l k] := by
  rw [List.take_succ_eq_append_getElem h, at_get h]

/-- Piles made empty. -/
theorem PileS.empty {w : World} {b j : Nat} (hc : w.cell? ⟨b, j, none⟩ = some (.slice none 0 0)) (hf : w.frozen? ⟨b, j, none⟩ = false) : PileS w b j none [] :=
  ⟨[], ⟨_, hc, hf, rfl, by simp, World.ownsRow_nil _ _ _ _⟩, by intro k _ hk; simp at hk, List.Perm.refl _, List.Pairwise.nil⟩

def SomeRel (w : World) (k : Nat) (wr : World) : Prop :=
  (∃ r, PileS wr w.heap.size 0 r (srt (its.take k)) ∧ (∀ i, some i = r → w.heap.size + 2 ≤ i)) ∧ Below w.heap.size w wr ∧ wr.heap[w.heap.size + 1]? = some (.cells (csL its).toArray 32 (0, 0))

def SomePost (w : World) (e : Ending) (w' : World) : Prop :=
  e = .returned (.pointer (some ⟨w.heap.size, 0, none⟩)) ∧ (∃ r, PileS w' w.heap.size 0 r (srt its) ∧ (∀ i, some i = r → w.heap.size ≤ i)) ∧ Below w.heap.size w w'

theorem some_round {w wr w' : World} {k : Nat} {x : It} (h : SomeRel w k wr) (hk : k < 4) (hx : at_ its k = x) {r : Option Nat} (hr2 : ∀ i, some i = r → w.heap.size + 2 ≤ i) {o : Obj} {e : Ending}
    (hp : PushS (wr.alloc o) w.heap.size 0 r (srt (its.take k)) x e w') : SomeRel w (k + 1) w' := by
  obtain ⟨_, hb, hl⟩ := h
  obtain ⟨_, r', hp', hkp, hn⟩ := hp
  have hz := hb.size
  have hs := blk_lt hl
  have hK : Kept (Of w.heap.size r) wr w' := ((Kept.refl _ wr).alloc o).trans hkp.kept (fun _ _ => id)
  refine ⟨⟨r', ?_, ?_⟩, hb.trans (hK.below ?_ hb.size), ?_⟩
  · rw [take_snoc (by simpa [its] using hk), srt_snoc, hx]; exact hp'
  · intro i hi
    rcases hn i hi with h1 | h1
    · exact hr2 i h1
    · simp at h1; omega
  · rintro i (rfl | h1)
    · exact Nat.le_refl _
    · have := hr2 i h1; omega
  · rw [hK.block _ hs]; exact hl
    rintro (h1 | h1)
    · omega
    · have := hr2 _ h1; omega

set_option maxHeartbeats 1000000 in
theorem some_any (w : World) : Calls Try.prog 19 #[] w (SomePost w) := by
  have HS : Hid (∀ t, SomeRel w 0 ((w.alloc (.cells #[.slice none 0 0] t)).alloc (.cells (csL its).toArray 32))) := by
    intro t
    refine ⟨⟨none, ?_, fun i h => by cases h⟩, ((Below.refl _ w).alloc (Nat.le_refl _) _).alloc (by simp) _, ?_⟩
    · have : PileS (w.alloc (.cells #[.slice none 0 0] t)) w.heap.size 0 none [] := PileS.empty (by rw [blk_cell (heap_alloc_new w _)]; rfl) (blk_free (heap_alloc_new w _) 0)
      exact this.alloc _
    · have := heap_alloc_new (w.alloc (.cells #[.slice none 0 0] t)) (.cells (csL its).toArray 32)
      rwa [World.size_alloc] at this
  go_enter Try.func19, Try.ntmps19
  go_wp2
  go_loopw [12] (fun v wr => ∃ k : Nat, k ≤ 4 ∧ v = .int .i64 (k : Int) ∧ SomeRel w k wr) (fun v _ => 4 - (intOf v).toNat)
  case atStart => exact ⟨0, by omega, rfl, HS.out _⟩
  case round =>
    obtain ⟨k, hk, rfl, hR⟩ := hrel
    have HRel := Lib.hid hR
    by_cases hlt : k < 4
    · obtain ⟨⟨r, hp, hr2⟩, hb, hl⟩ := hR
      have hki : k < its.length := by simpa [its] using hlt
      have x0 : wr.cell? ⟨w.heap.size + 1, k * 3, none⟩ = some (.int .i64 (at_ its k).c) := by rw [blk_cell hl, List.getElem?_toArray, csL_c hki]
      have x1 : wr.cell? ⟨w.heap.size + 1, k * 3 + 1, none⟩ = some (.int .i64 (at_ its k).t) := by rw [blk_cell hl, List.getElem?_toArray, csL_t hki]
      have x2 : wr.cell? ⟨w.heap.size + 1, k * 3 + 2, none⟩ = some (.int .i64 (at_ its k).i) := by rw [blk_cell hl, List.getElem?_toArray, csL_i hki]
      have HP : Hid (∀ o, Calls Try.prog 9 #[.pointer (some ⟨w.heap.size, 0, none⟩), .agg #[.int .i64 (at_ its k).c, .int .i64 (at_ its k).t, .int .i64 (at_ its k).i]] (wr.alloc o) fun e w' => e = .returned (.tuple #[]) ∧ SomeRel w (k + 1) w') :=
        fun o => (push_s (hp.alloc o) (at_ its k) (by rw [srt_length]; simp; omega)).mono fun e w' hq => ⟨hq.1, some_round HRel.out hlt rfl hr2 hq⟩
      clear hp hb hl hr2
      generalize at_ its k = x at *
      obtain ⟨c0, c1, c2⟩ := x
      simp only at *
      go_wp2_with (go_at_call 9; (with_reducible refine (HP.out _).mono ?_); rintro e w2 ⟨rfl, hq⟩; have HQ := Lib.hid hq; clear hq)
      go_roundw
      case rel => exact ⟨k + 1, by omega, by go_num, HQ.out⟩
      case measure => simp [intOf]; omega
    · obtain rfl : k = 4 := by omega
      have HP : Hid (SomePost w (.returned (.pointer (some ⟨w.heap.size, 0, none⟩))) wr) := by
        obtain ⟨⟨r, hp, hr2⟩, hb, hl⟩ := hR
        exact ⟨rfl, ⟨r, hp, fun i hi => by have := hr2 i hi; omega⟩, hb⟩
      clear hR
      go_wp2
      go_ret
      exact HP.out
end Go.Proofs.Ytdhpphkkpjldfab
