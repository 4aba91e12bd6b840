/-
  The document's number: a number in so many bytes.
-/
import Derived.Test.YtmfbokaaoffdnaaDoorWrG
import Derived.Laws.MakeOwn
namespace Go.Proofs.YtmfbokaaoffdnaaDoor
set_option maxRecDepth 100000
set_option linter.unusedSimpArgs false
open Go Go.RowKit Wr

theorem be_next (n j : Nat) : be (j + 1) (n : Int) = (n / 256 ^ j) % 256 :: be j (n : Int) := by
  simp only [be]
  congr 1
  rw [pow_8]
  have : ((n : Int) / ((256 ^ j : Nat) : Int) % 256) = (((n / 256 ^ j) % 256 : Nat) : Int) := by push_cast; rfl
  rw [this, Int.toNat_natCast]
/-- What stands there behind so many rounds. -/
def numL (n m j : Nat) : List Nat := List.replicate (m - j) 0 ++ be j (n : Int)
theorem numL_next {n m j : Nat} (h : j < m) : (numL n m j).set (m - 1 - j) ((n / 256 ^ j) % 256) = numL n m (j + 1) := by
  unfold numL
  rw [be_next, show m - j = (m - 1 - j) + 1 by omega, List.replicate_succ', List.append_assoc, List.set_append_right _ _ (by simp)]
  simp
  rw [show m - (j + 1) = m - 1 - j by omega]

set_option maxHeartbeats 2000000 in
theorem number_any (w : World) (n m : Nat) (hn : n < 18446744073709551616) (hm : 1 ≤ m ∧ m ≤ 8) :
    Calls Tryd.prog 26 #[.int .u64 (n : Nat), .int .i64 (m : Nat)] w fun e w' => e = .returned (.slice (some ⟨w.heap.size, 0, none⟩) m m) ∧ Blk w' w.heap.size m (be m (n : Int)) ∧ Below w.heap.size w w' := by
  obtain ⟨i0, hi, hz0, hz1, hz2⟩ := info_parts Tryd.infoU8
  obtain ⟨P, hP⟩ : ∃ P : Ending → World → Prop, P = fun e w' => e = .returned (.slice (some ⟨w.heap.size, 0, none⟩) m m) ∧ Blk w' w.heap.size m (be m (n : Int)) ∧ Below w.heap.size w w' := ⟨_, rfl⟩
  have HQ : Hid (∀ w', Blk w' w.heap.size m (be m (n : Int)) → Below w.heap.size w w' → P (.returned (.slice (some ⟨w.heap.size, 0, none⟩) m m)) w') := by rw [hP]; exact fun w' h1 h2 => ⟨rfl, h1, h2⟩
  rw [← hP]
  clear hP
  obtain ⟨b, hb⟩ : ∃ b, b = w.heap.size := ⟨_, rfl⟩
  have hmk : (Instr.makeSlice 34 (.int .i64 (m : Nat)) (.int .i64 (m : Nat))).run Tryd.prog w = .ok (.slice (some ⟨w.heap.size, 0, none⟩) m m) (w.alloc (.cells (((List.replicate m 0).map byV).toArray) 5)) := by
    have h := run_makeSlice (P := Tryd.prog) w 34 5 i0 (.int .u8 0) Tryd.underlying34 hi hz0 .i64 .i64 (m : Int) (m : Int) (by omega) (Int.le_refl _) (by rw [hz1]; omega) (by rw [hz2]; omega) (by omega)
    rw [hz1] at h
    have e : madeCells (Value.int .u8 0).cells ((m : Int).toNat * 1) = ((List.replicate m 0).map byV).toArray := by
      apply Array.ext
      · simp [madeCells]
      · intro i h1 h2
        simp [madeCells, Value.cells, byV, Nat.mod_one]
    rw [e] at h
    exact h
  have hblk : (w.alloc (.cells (((List.replicate m 0).map byV).toArray) 5)).heap[w.heap.size]? = some (.cells (((numL n m 0).map byV).toArray) 5 (0, 0)) := by
    have := World.alloc_heap_new w (.cells (((List.replicate m 0).map byV).toArray) 5)
    simpa [numL, be] using this
  have HBW : Hid (Below w.heap.size w (w.alloc (.cells (((List.replicate m 0).map byV).toArray) 5))) := (Below.refl _ w).alloc (Nat.le_refl _) _
  obtain ⟨W0, hW0⟩ : ∃ W0, W0 = w.alloc (.cells (((List.replicate m 0).map byV).toArray) 5) := ⟨_, rfl⟩
  rw [← hW0] at hmk hblk HBW
  rw [← hb] at hmk hblk HQ HBW
  have HBK := Lib.hid hblk
  have s0 : IntKind.i64.wrap ((m : Int) - 1) = (m : Int) - 1 := by rw [wrap_w64]; unfold w64; omega
  clear hW0 hblk hb hi hz0 hz1 hz2
  go_enter Tryd.func26, Tryd.ntmps26
  go_wp2
  clear s0 hmk
  go_loopw [0, 6] (fun u v wr => ∃ j : Nat, j ≤ m ∧ v = .int .i64 ((m : Int) - 1 - (j : Int)) ∧ u = .int .u64 ((n / 256 ^ j : Nat) : Int) ∧ wr.heap[b]? = some (.cells (((numL n m j).map byV).toArray) 5 (0, 0)) ∧ Below b w wr) (fun _ v _ => (intOf v + 1).toNat)
  case atStart => exact ⟨0, Nat.zero_le _, by go_num, by simp, HBK.out, HBW.out⟩
  case round =>
    obtain ⟨j, hj, rfl, rfl, hbk, hbw⟩ := hrel
    have HBj := Lib.hid hbk
    have HWj := Lib.hid hbw
    clear hbk hbw
    by_cases hlt : j < m
    · obtain ⟨i, hi'⟩ : ∃ i : Nat, i = m - 1 - j := ⟨_, rfl⟩
      have ei : (m : Int) - 1 - (j : Int) = (i : Int) := by omega
      have hN : n / 256 ^ j < 18446744073709551616 := Nat.lt_of_le_of_lt (Nat.div_le_self _ _) hn
      have hnx : n / 256 ^ (j + 1) = n / 256 ^ j / 256 := by rw [Nat.pow_succ, Nat.div_div_eq_div_mul]
      have HST : Hid (∀ W, W = wr.setCell ⟨b, i, none⟩ (.int .u8 (((n / 256 ^ j : Nat) : Int) % 256)) → W.heap[b]? = some (.cells (((numL n m (j + 1)).map byV).toArray) 5 (0, 0)) ∧ Below b w W) := by
        rintro W rfl
        refine ⟨?_, HWj.out.setCell (p := ⟨b, i, none⟩) (Nat.le_refl _) _⟩
        have e : ((n / 256 ^ j : Nat) : Int) % 256 = (((n / 256 ^ j) % 256 : Nat) : Int) := rfl
        rw [blk_set HBj.out i, ← numL_next hlt, ← hi', e]
        simp [byV]
      have c1 : wr.cell? ⟨b, i, none⟩ = some (byV ((numL n m j).getD i 0)) := by
        rw [blk_cell HBj.out]
        have hl : (numL n m j).length = m := by simp [numL, be_length]; omega
        have : i < (numL n m j).length := by omega
        simp [List.getD, this]
      have f1 := blk_free HBj.out i
      rw [ei]
      simp only [byV] at c1
      generalize (numL n m j).getD i 0 = old at *
      have HNX : Hid (((n / 256 ^ (j + 1) : Nat) : Int) = ((n / 256 ^ j / 256 : Nat) : Int)) := by rw [Hid, hnx]
      clear hnx
      generalize n / 256 ^ j = N at *
      have t1 : (N : Int).tmod 256 = ((N % 256 : Nat) : Int) := rfl
      have t2 : (N : Int).tdiv 256 = ((N / 256 : Nat) : Int) := rfl
      have t3 : IntKind.u8.wrap ((N % 256 : Nat) : Int) = ((N % 256 : Nat) : Int) := by
        simp [IntKind.wrap, IntKind.bits, IntKind.signed]
      have i0 : (0 : Int) ≤ (i : Int) := by omega
      have i1 : (i : Int) < (m : Int) := by omega
      have s1 : IntKind.i64.wrap ((i : Int) - 1) = (i : Int) - 1 := by rw [wrap_w64]; unfold w64; omega
      clear hi'
      go_wp2
      go_roundw
      case rel => exact ⟨j + 1, by omega, by congr 1 <;> omega, by rw [HNX.out]; rfl, (HST.out _ rfl).1, (HST.out _ rfl).2⟩
      case measure => simp [intOf]
    · obtain rfl : j = m := by omega
      have em : (j : Int) - 1 - (j : Int) = -1 := by omega
      rw [em]
      have HB2 : Hid (Blk wr b j (be j (n : Int))) := by
        have h := HBj.out
        unfold numL at h
        rw [Nat.sub_self, List.replicate_zero, List.nil_append] at h
        exact ⟨⟨_, h, by simp [be_length], by rw [be_length]; simp [be_length, List.take_of_length_le]⟩, by rw [be_length]; exact Nat.le_refl _, by unfold maxLen; omega⟩
      go_wp2
      first | exact HQ.out _ HB2.out HWj.out | (go_ret; exact HQ.out _ HB2.out HWj.out)
end Go.Proofs.YtmfbokaaoffdnaaDoor
