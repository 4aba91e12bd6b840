/-
  The library's Repeat, of one number.
-/
import Derived.Test.YtekhlaodlagbdaaGreatDoorSgE
import Derived.Test.YtekhlaodlagbdaaGreatDoorSgLay
import Derived.Laws.CopyOwn
import Derived.IntWalk
import Derived.Lib.Hide
import Derived.WalkKit
import Derived.WalkSpells
import Derived.WalkLawsBesides
import Derived.Deep.RegionLaw
namespace Go.Proofs.YtekhlaodlagbdaaGreatDoor
set_option maxRecDepth 100000
open Go Go.RowKit Go.Shelf

theorem makeInts_run (N : Nat) (hN : N ≤ 100000) (w : World) : (Instr.makeSlice 36 (.int .i64 (N : Int)) (.int .i64 (N : Int))).run Tryz.prog w = .ok (.slice (some ⟨w.heap.size, 0, none⟩) N N) (w.alloc (.cells (madeCells #[.int .i64 0] N) 3)) := by
  obtain ⟨i0, hi, hz0, hz1, hz2⟩ := info_parts Tryz.infoInt
  have := run_make (P := Tryz.prog) w 36 3 i0 (.int .i64 0) Tryz.underlying36 hi hz0 .i64 .i64 (N : Int) (N : Int) (by omega) (Int.le_refl _) (by rw [hz2]; omega) (by omega)
  simpa [hz1, Value.cells] using this

def RepRel (w : World) (g N k : Nat) (v : Value) (wr : World) : Prop :=
  ∃ cur : List Value, wr.heap[g]? = some (.cells cur.toArray 3 (0, 0)) ∧ cur.length = N ∧ (∀ j, j < k → cur[j]? = some v) ∧ Below w.heap.size w wr
theorem rep_step {cur : List Value} {N k : Nat} {v : Value} (hl : cur.length = N) (hk : k < N) (h : ∀ j, j < k → cur[j]? = some v) :
    (splice cur k (cur.take (Nat.min k (N - k)))).length = N ∧ ∀ j, j < k + Nat.min k (N - k) → (splice cur k (cur.take (Nat.min k (N - k))))[j]? = some v := by
  have hm : Nat.min k (N - k) ≤ k := Nat.min_le_left _ _
  have hm2 : Nat.min k (N - k) ≤ N - k := Nat.min_le_right _ _
  generalize Nat.min k (N - k) = m at *
  unfold splice
  refine ⟨by simp; omega, fun j hj => ?_⟩
  by_cases h1 : j < k
  · rw [List.getElem?_append_left (by simp; omega), List.getElem?_take_of_lt h1]
    exact h j h1
  · rw [List.getElem?_append_right (by simp; omega), List.getElem?_append_left (by simp; omega), List.getElem?_take_of_lt (by simp; omega)]
    exact h _ (by simp; omega)

set_option maxHeartbeats 2000000 in
theorem repeat_any {w : World} {vb c N : Nat} {x : Int} (hvb : w.heap[vb]? = some (.cells #[.int .i64 x] 3 (0, 0))) (hN : 1 ≤ N) (hN2 : N ≤ 1024) :
    Calls Tryz.prog 52 #[.slice (some ⟨vb, 0, none⟩) 1 c, .int .i64 (N : Int)] w fun e w' => ∃ g, e = .returned (.slice (some ⟨g, 0, none⟩) N N) ∧ w'.heap[g]? = some (.cells (List.replicate N (.int .i64 x)).toArray 3 (0, 0)) ∧ w.heap.size ≤ g ∧ Below w.heap.size w w' := by
  have hmul := Any.bits_Mul layMul 1 N (by omega) (by omega) w
  have e1 : 1 * N / 18446744073709551616 = 0 := by omega
  have e2 : 1 * N % 18446744073709551616 = N := by omega
  rw [e1, e2] at hmul
  have HM := Lib.hid hmul
  clear hmul e1 e2
  have hmk := makeInts_run N (by omega)
  have hvlt := blk_lt hvb
  go_enter Tryz.func52, Tryz.ntmps52
  go_wp2_with fail
  refine HM.out.mono ?_
  rintro e w' ⟨rfl, hw⟩
  obtain rfl := hw.symm
  have hz := toList_madeCells_one (.int .i64 0) N
  have hg0 : (w.alloc (.cells (madeCells #[.int .i64 0] N) 3)).heap[w.heap.size]? = some (.cells ((List.replicate N (Value.int .i64 0)).toArray) 3 (0, 0)) := by
    rw [heap_alloc_new, ← hz]
  have hs0 : ∀ j v, [Value.int .i64 x][j]? = some v → (w.alloc (.cells (madeCells #[.int .i64 0] N) 3)).cell? ((⟨vb, 0, none⟩ : Addr).add j) = some v := by
    apply World.news_of_block (cs := #[.int .i64 x])
    rw [Below.heap_alloc _ _ _ hvlt]; exact hvb
  have HG0 := Lib.hid hg0
  have HS0 := Lib.hid hs0
  have HB0 : Hid (Below w.heap.size w (w.alloc (.cells (madeCells #[.int .i64 0] N) 3))) := (Below.refl _ w).alloc (Nat.le_refl _) _
  clear hz hg0 hs0
  go_wp2_with (refine wpList_copy_splice rfl (.tmp 31) (.tmp 32) 36 36 rfl 3 Tryz.underlying36 (by kernel_rfl) (some ⟨w.heap.size, 0, none⟩) (some ⟨vb, 0, none⟩) N N 1 c rfl rfl w.heap.size 0 (List.replicate N (.int .i64 0)) 3 HG0.out [.int .i64 x] (by show 1 = Nat.min 1 N; exact (Nat.min_eq_left hN).symm) (fun _ => ⟨rfl, _, rfl, HS0.out⟩) (by simp; omega) (by intro u hu; simp at hu; subst hu; rfl) w.heap.size w HB0.out (Nat.le_refl _) ?_; intro w2 hg2 hb2)
  have HR : Hid (RepRel w w.heap.size N 1 (.int .i64 x) w2) := by
    refine ⟨_, hg2.out, ?_, ?_, hb2⟩
    · rw [length_splice]
      · simp
      · simp; omega
    · intro j hj
      obtain rfl : j = 0 := by omega
      simp [splice]
  clear hg2 hb2 HG0 HS0 HB0
  go_wp2
  go_loopw [8] (fun v wr => ∃ k : Nat, 1 ≤ k ∧ k ≤ N ∧ v = .int .i64 (k : Int) ∧ RepRel w w.heap.size N k (.int .i64 x) wr) (fun v _ => N - (intOf v).toNat)
  case atStart => exact ⟨1, Nat.le_refl _, hN, rfl, HR.out⟩
  case round =>
    obtain ⟨k, hk1, hk, rfl, cur, hg, hl, hc, hb⟩ := hrel
    clear HR
    by_cases hlt : k < N
    · have hst := rep_step hl hlt hc
      have hmA : Nat.min k (N - k) ≤ k := Nat.min_le_left _ _
      have hm : (cur.take (Nat.min k (N - k))).length = Nat.min k (N - k) := by
        rw [List.length_take, Nat.min_eq_left (by omega)]
      have hm1 : 1 ≤ Nat.min k (N - k) := by rw [Nat.le_min]; omega
      have hm2 : Nat.min k (N - k) ≤ N - k := Nat.min_le_right _ _
      have hmk2 := hmA
      clear hmA
      have hcs : ∀ j v, (cur.take (Nat.min k (N - k)))[j]? = some v → wr.drew.cell? ((⟨w.heap.size, 0, none⟩ : Addr).add j) = some v := by
        intro j v hj
        have hjl : j < Nat.min k (N - k) := by
          rcases Nat.lt_or_ge j (Nat.min k (N - k)) with h | h
          · exact h
          · rw [List.getElem?_eq_none (by omega)] at hj; cases hj
        rw [List.getElem?_take_of_lt hjl] at hj
        exact World.news_of_block (w := wr.drew) (cs := cur.toArray) hg j v (by simpa using hj)
      have hone : ∀ u ∈ cur.take (Nat.min k (N - k)), u.oneCell' = true := by
        intro u hu
        obtain ⟨j, hj, rfl⟩ := List.getElem_of_mem hu
        rw [hm] at hj
        have h1 := hc j (by omega)
        rw [List.getElem_take]
        rw [List.getElem?_eq_getElem (by omega)] at h1
        simp at h1
        rw [h1]; rfl
      have HRR : Hid (∀ w', w'.heap[w.heap.size]? = some (.cells (splice cur k (cur.take (Nat.min k (N - k)))).toArray 3 (0, 0)) → Below w.heap.size w w' → RepRel w w.heap.size N (k + Nat.min k (N - k)) (.int .i64 x) w') := fun w' h1 h2 => ⟨_, h1, hst.1, hst.2, h2⟩
      have HG := Lib.hid hg
      have HL := Lib.hid hl
      have HB : Hid (Below w.heap.size w wr.drew) := hb.drew
      have HM2 := Lib.hid hm
      have HCS := Lib.hid hcs
      have HONE := Lib.hid hone
      have hfit : k + Nat.min k (N - k) ≤ cur.length := by omega
      have HFIT := Lib.hid hfit
      clear hst hc hb hg hl hm hcs hone hfit
      obtain ⟨m, hmm⟩ : ∃ m, m = Nat.min k (N - k) := ⟨_, rfl⟩
      have HMM := Lib.hid hmm
      rw [← hmm] at hm1 hm2 hmk2 HM2 HCS HONE HRR HFIT
      clear hmm
      have q1 : IntKind.i64.wrap ((k : Int) + (m : Int)) = (k : Int) + (m : Int) := IntWalk.i64_in _ (by omega)
      have hne : ¬ N = k := by omega
      have hne2 : ¬ (N : Int) = (k : Int) := by omega
      go_wp2
      go_region_law (refine step_copy_splice rfl (.tmp 41) (.tmp 44) 36 36 rfl 3 Tryz.underlying36 (by kernel_rfl) (some ⟨w.heap.size, k, none⟩) (some ⟨w.heap.size, 0, none⟩) (N - k) (N - k) k N (by simp [Act.eval, Act.put]) (by simp [Act.eval, Act.put]) w.heap.size k cur 3 HG.out (cur.take m) (by rw [HM2.out]; exact HMM.out) (fun _ => ⟨rfl, _, rfl, HCS.out⟩) (by rw [HM2.out]; exact HFIT.out) HONE.out w.heap.size w HB.out (Nat.le_refl _) ?_; intro w2 hg2 hb2; rw [HM2.out]; simp only [goInt])
      all_goals
        have HQ := Lib.hid (HRR.out _ hg2.out hb2)
        clear hg2 hb2 q1 hne hne2
        simp only [List.getElem_toArray, List.getElem_cons_succ, List.getElem_cons_zero, Act.put]
        go_wp2
        go_roundw
        case rel =>
          repeat apply Exists.intro
          exact ⟨⟨k + m, by omega, by omega, by go_num, HQ.out⟩, rfl⟩
        case measure => simp [intOf]; omega
    · obtain rfl : k = N := by omega
      have HQ : Hid (wr.heap[w.heap.size]? = some (.cells (List.replicate k (.int .i64 x)).toArray 3 (0, 0)) ∧ Below w.heap.size w wr) := by
        refine ⟨?_, hb⟩
        have : cur = List.replicate k (.int .i64 x) := by
          apply List.ext_getElem?
          intro j
          by_cases hj : j < k
          · rw [hc j hj, List.getElem?_replicate, if_pos hj]
          · rw [List.getElem?_eq_none (by omega), List.getElem?_eq_none (by simp; omega)]
        rw [← this]
        exact hg
      clear hg hl hc hb
      go_wp2
      go_ret
      exact ⟨_, rfl, HQ.out.1, Nat.le_refl _, HQ.out.2⟩
end Go.Proofs.YtekhlaodlagbdaaGreatDoor
