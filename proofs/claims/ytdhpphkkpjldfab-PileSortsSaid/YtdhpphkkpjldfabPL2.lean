/-
  The laws' example: alive.
-/
import Derived.Test.YtdhpphkkpjldfabPL1
import Derived.StillTailTactics
import Derived.Deep.RegionHeld3
namespace Go.Proofs.Ytdhpphkkpjldfab
set_option maxRecDepth 100000
open Go Go.RowKit Pq

theorem below_dn {B : Nat} {a w : World} (h : Below B a w) (n : Nat) : Below B a (w.drewN n) := ⟨h.os, h.tape, h.output, h.size, h.block⟩

set_option maxHeartbeats 1000000 in
theorem alive_any (w : World) : Calls Try.prog 20 #[] w fun e w' => e = .returned (.bool true) ∧ Below w.heap.size w w' := by
  go_enter Try.func20, Try.ntmps20
  go_wp2_with fail
  refine (some_any _).mono ?_
  rintro e w1 ⟨rfl, ⟨r, hp1, hr1⟩, hb1⟩
  rw [srt_its] at hp1
  have hlt1 := hp1.lt
  have HP1 := Lib.hid hp1
  clear hp1
  go_wp2_with fail
  refine (top_s HP1.out).mono ?_
  rintro e w2 ⟨rfl, hb2⟩
  have hs2 := hb2.size
  have hs1 := hb1.size
  have HB2 : Hid (Below w.heap.size w w2) := hb1.trans (hb2.mono hs1)
  have hlt2 : ∀ k, Of w.heap.size r k → k < w2.heap.size := fun k hk => by have := hlt1 k hk; omega
  have HP2 : Hid (∀ o, PileS (w2.alloc o) w.heap.size 0 r [⟨3, 1, 3⟩, ⟨3, 1, 3⟩, ⟨3, 9, 2⟩, ⟨5, 0, 1⟩]) := fun o => (HP1.out.below hb2 (Nat.le_refl _)).alloc o
  clear hb1 hb2 HP1 hlt1
  go_wp2_with fail
  refine (least_any (HP2.out _) (by decide) 3).mono ?_
  rintro e w3 ⟨v, rfl, ho3, hp3, hk3⟩
  have hv : ∃ g cap, v = .slice (some ⟨g, 0, none⟩) 3 cap := by
    rcases ho3.2 with ⟨_, h0⟩ | ⟨g, cap, cur, rfl, _⟩
    · cases h0
    · exact ⟨g, cap, rfl⟩
  obtain ⟨g, cap, rfl⟩ := hv
  have HX : Hid (w3.heap[w2.heap.size]? = some (.cells #[.int .i64 3, .int .i64 1, .int .i64 3] 32 (0, 0))) := by
    show _ = _
    rw [hk3.kept.block _ (by simp) (fun h => by have := hlt2 _ h; omega)]
    exact heap_alloc_new w2 _
  have x0 : w3.cell? ⟨w2.heap.size, 0, none⟩ = some (.int .i64 3) := by rw [blk_cell HX.out]; rfl
  have x1 : w3.cell? ⟨w2.heap.size, 1, none⟩ = some (.int .i64 1) := by rw [blk_cell HX.out]; rfl
  have x2 : w3.cell? ⟨w2.heap.size, 2, none⟩ = some (.int .i64 3) := by rw [blk_cell HX.out]; rfl
  have g0 : w3.cell? ⟨g, 0, none⟩ = some (.int .i64 3) := ho3.cellAt 0 (by decide)
  have g1 : w3.cell? ⟨g, 1, none⟩ = some (.int .i64 1) := ho3.cellAt 1 (by decide)
  have g2 : w3.cell? ⟨g, 2, none⟩ = some (.int .i64 3) := ho3.cellAt 2 (by decide)
  have g3 : w3.cell? ⟨g, 3, none⟩ = some (.int .i64 3) := ho3.cellAt 3 (by decide)
  have g4 : w3.cell? ⟨g, 4, none⟩ = some (.int .i64 1) := ho3.cellAt 4 (by decide)
  have g5 : w3.cell? ⟨g, 5, none⟩ = some (.int .i64 3) := ho3.cellAt 5 (by decide)
  have g6 : w3.cell? ⟨g, 6, none⟩ = some (.int .i64 3) := ho3.cellAt 6 (by decide)
  have g7 : w3.cell? ⟨g, 7, none⟩ = some (.int .i64 9) := ho3.cellAt 7 (by decide)
  have g8 : w3.cell? ⟨g, 8, none⟩ = some (.int .i64 2) := ho3.cellAt 8 (by decide)
  have HL : Hid (∀ n, Calls Try.prog 18 #[.pointer (some ⟨w.heap.size, 0, none⟩)] (w3.drewN n) fun e w' => e = .returned (.int .i64 1) ∧ ∃ m, w' = (w3.drewN n).drewN m) := by
    intro n
    exact (len_s (hp3.drewN n)).mono fun e w' ⟨h1, h2⟩ => ⟨h1, 0, by rw [← h2]; rfl⟩
  have HB3 : Hid (Below w.heap.size w w3) := by
    refine HB2.out.trans (((Below.refl w2.heap.size w2).alloc (Nat.le_refl _) _).mono (by omega) |>.trans (hk3.kept.below ?_ (by simp; omega)))
    rintro k (rfl | hk)
    · exact Nat.le_refl _
    · exact hr1 k hk
  clear ho3 hp3 hk3 HX HP2 hlt2 hr1
  go_wp2_with fail
  go_quiet ((go_at_call 18; exact Calls.quiet_of (HL.out _)))
  go_wp2
  go_ret
  exact ⟨rfl, below_dn HB3.out nq⟩
end Go.Proofs.Ytdhpphkkpjldfab
