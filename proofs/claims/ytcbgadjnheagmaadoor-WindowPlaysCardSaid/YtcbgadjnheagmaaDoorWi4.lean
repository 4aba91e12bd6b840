/-
  The iterator that tells the numbers ahead.
-/
import Derived.Test.YtcbgadjnheagmaaDoorWi3
import Derived.Test.YtcbgadjnheagmaaDoorRange3
import Derived.RangeFuncBound
import Derived.Shelf.Abstract
import Derived.Shelf.RegionOpen
import Derived.OwnWalkIn
import Derived.TacticsInMore
import Derived.LoopNIn
import Derived.LoopIn
import Derived.Sort.QuietIn
import Derived.Stop.RegionWithIn
namespace Go.Proofs.YtcbgadjnheagmaaDoor
set_option maxRecDepth 100000
set_option linter.unusedSimpArgs false
open Go Go.RowKit
attribute [local go_sem] Oper.semAt_some

theorem ahead_any (w : World) (p : Option Addr) :
    Calls Tryd.prog 22 #[.pointer p] w fun e w' => e = .returned (.func (.func 23) #[] #[.pointer (some ⟨w.heap.size, 0, none⟩)]) ∧ w' = w.alloc (.cells #[.pointer p] 24) := by
  go_enter Tryd.func22, Tryd.ntmps22
  go_wp2
  go_ret
  exact ⟨rfl, rfl⟩

/-- What a round keeps: of what there was below F all but X. -/
def KpF (F : Nat) (X : Nat → Prop) (A B : World) : Prop := ∀ i, i < F → ¬ X i → B.heap[i]? = A.heap[i]?
theorem KpF.trans {F : Nat} {X : Nat → Prop} {A B C : World} (h : KpF F X A B) (k : KpF F X B C) : KpF F X A C := fun i hi hx => (k i hi hx).trans (h i hi hx)
theorem KpF.refl (F : Nat) (X : Nat → Prop) (A : World) : KpF F X A A := fun _ _ _ => rfl

/-- The positions below i that were met. -/
def pos (e i : Nat) : List Nat := (List.range i).filter e.testBit
theorem pos_succ (e i : Nat) : pos e (i + 1) = if e.testBit i then pos e i ++ [i] else pos e i := by
  unfold pos
  rw [List.range_succ, List.filter_append]
  cases h : e.testBit i <;> simp [h]
theorem pos_len (e i : Nat) : (pos e i).length ≤ i := by
  unfold pos
  refine Nat.le_trans (List.length_filter_le _ _) ?_
  simp

theorem pos_prefix (e : Nat) {i j : Nat} (h : i ≤ j) : pos e i <+: pos e j := by
  unfold pos
  rw [Wd.range_split h, List.filter_append]
  exact List.prefix_append _ _
theorem shr_bit {e i : Nat} (he : e < 18446744073709551616) : (bits BinOp.and IntKind.u64 ((e >>> i : Nat) : Int) 1 == 0) = !e.testBit i := by
  have h1 : e >>> i < 18446744073709551616 := Nat.lt_of_le_of_lt (Nat.shiftRight_le _ _) he
  have := bits_and_u64_nat (e >>> i) 1 h1 (by omega)
  rw [show ((1 : Nat) : Int) = 1 from rfl] at this
  rw [this, Nat.and_one_is_mod]
  have h2 : e.testBit i = decide ((e >>> i) % 2 = 1) := by
    rw [Nat.testBit_eq_decide_div_mod_eq, Nat.shiftRight_eq_div_pow]
  rw [h2]
  generalize e >>> i = x
  by_cases hx : x % 2 = 1
  · simp [hx]
  · have : x % 2 = 0 := by omega
    simp [this]

set_option maxHeartbeats 2000000 in
theorem ahead_tells (n : Nat) (hn : 1 ≤ n) {b k l e : Nat} {X : Nat → Prop} {w : World} (hW : WinAt w b l e) (hO : Wd.Ok l e) (hk : w.cell? ⟨k, 0, none⟩ = some (.pointer (some ⟨b, 0, none⟩))) (hb : ¬ X b) (hkX : ¬ X k) :
    TellsP n Tryd.prog 23 #[.pointer (some ⟨k, 0, none⟩)] (fun x : Nat => #[.int .u32 (x : Int)]) (fun A B => A = B) (KpF w.heap.size X) (fun xs _ => xs = Wd.early l e) (fun pre x => pre ++ [x] <+: Wd.early l e) w := by
  intro y J W hB hJ hY h0
  have HY := Lib.hid hY
  have hbl := blk_lt hW
  have hkl := World.block_lt_of_cell? w _ hk
  obtain ⟨I, hI⟩ : ∃ I : World → Prop, I = fun V => WinAt V b l e ∧ V.cell? ⟨k, 0, none⟩ = some (.pointer (some ⟨b, 0, none⟩)) := ⟨_, rfl⟩
  have HI : Hid (∀ V, I V → WinAt V b l e ∧ V.cell? ⟨k, 0, none⟩ = some (.pointer (some ⟨b, 0, none⟩))) := by rw [hI]; exact fun V h => h
  have hI0 : I W := by rw [hI]; exact ⟨(hB.block b hbl).trans hW, (World.cell?_of_block (hB.block k hkl)).trans hk⟩
  have HK : Hid (∀ A B, I A → KpF w.heap.size X A B → I B) := by
    rw [hI]; exact fun A B h hk => ⟨(hk b hbl hb).trans h.1, (World.cell?_of_block (hk k hkl hkX)).trans h.2⟩
  obtain ⟨P, hP⟩ : ∃ P : Ending → World → Prop, P = fun e' W' => (∃ v, e' = .returned v) ∧ ∃ xs, xs = Wd.early l e ∧ J xs W' := ⟨_, rfl⟩
  have HQ : Hid (∀ W', J ((pos e 64).map (l + 1 + ·)) W' → P (.returned (.tuple #[])) W') := by
    rw [hP]; exact fun W' h => ⟨⟨_, rfl⟩, _, rfl, h⟩
  rw [← hP]
  have HO := Lib.hid hO
  have H0 : Hid (J ((pos e 0).map (l + 1 + ·)) W ∧ I W) := ⟨h0, hI0⟩
  obtain ⟨⟨c0, c1⟩, _⟩ := (HI.out W hI0).1.two
  have ck := (HI.out W hI0).2
  clear hY hI hI0 hP h0 hO hb hkX hk hW hB hJ hbl hkl
  refine callsIn_of_wp Tryd.func23 rfl trivial ?_ rfl
  simp only [Tryd.ntmps23, List.size_toArray, List.length_cons, List.length_nil, Nat.reduceAdd, Nat.reduceSub, Array.replicate_succ, Array.replicate_zero, List.push_toArray, List.append_toArray, List.nil_append, List.cons_append]
  refine wpIn_wide.2 (wp_scope_straight ((wpIn_wide (n := n)).1 ?_))
  gi_wp2_with fail
  first | refine wpIn_seq (wpIn_label ?_) | refine wpIn_label ?_
  gi_wp2_with fail
  gi_loopw [6] (fun i wr => ∃ j : Nat, j ≤ 64 ∧ i = .int .u32 (j : Int) ∧ J ((pos e j).map (l + 1 + ·)) wr ∧ I wr) (fun i _ => 64 - (intOf i).toNat)
  case atStart => exact ⟨0, by omega, rfl, H0.out⟩
  case round =>
    obtain ⟨j, hj, rfl, hJ, hI⟩ := hrel
    rename World => V
    clear c0 c1 ck
    obtain ⟨hW, ck⟩ := HI.out V hI
    obtain ⟨⟨c0, c1⟩, _⟩ := hW.two
    have HJ := Lib.hid hJ
    have HII := Lib.hid hI
    have HJL := Lib.hid hj
    clear hJ hI hW
    by_cases h64 : j < 64
    · have q1 : (j : Int) < 64 := by omega
      have q2 : decide ((j : Int) < 64) = true := by simpa using q1
      have q3 : IntKind.u32.wrap ((j : Int) + 1) = (j : Int) + 1 := u32_in (by omega) (by omega)
      have q4 := shr_bit (i := j) HO.out.he
      have q5 : ((e >>> j : Nat) : Int) = (e : Int) / 2 ^ j := by rw [Nat.shiftRight_eq_div_pow]; push_cast; rfl
      rw [q5] at q4
      have hps := pos_succ e j
      have hpl := pos_len e j
      clear q5
      have H64 := Lib.hid h64
      cases ht : e.testBit j
      · rw [ht] at q4 hps
        have HS : Hid (∃ i : Nat, i ≤ 64 ∧ (Value.int .u32 ((j : Int) + 1)) = .int .u32 (i : Int) ∧ J ((pos e i).map (l + 1 + ·)) V ∧ I V) := ⟨j + 1, by omega, by push_cast; rfl, by rw [hps]; exact HJ.out, HII.out⟩
        clear hps hpl h64 hj
        simp only [Bool.not_false] at q4
        gi_wp2
        exact ⟨HS.out, by simp [intOf]; have := H64.out; omega⟩
      · rw [ht] at q4 hps
        have hmx := HO.out.hb j ht
        have q6 : ((l : Int) + 1 + (j : Int)) % 4294967296 = ((l + 1 + j : Nat) : Int) := by omega
        obtain ⟨fn, tmps, assign, body, hrun, hR⟩ := HY.out _ (l + 1 + j) V HJ.out (by
          have h5 := pos_prefix e (show j + 1 ≤ 64 by omega)
          rw [hps, if_pos rfl] at h5
          have h6 := h5.map (l + 1 + ·)
          rw [List.map_append] at h6
          exact h6)
        rw [show ((l + 1 + j : Nat) : Int) = (l : Int) + 1 + (j : Int) by push_cast; rfl] at hrun
        have HR := Lib.hid hR
        have HS : Hid (∀ W', J ((pos e j).map (l + 1 + ·) ++ [l + 1 + j]) W' → I W' → ∃ i : Nat, i ≤ 64 ∧ (Value.int .u32 ((j : Int) + 1)) = .int .u32 (i : Int) ∧ J ((pos e i).map (l + 1 + ·)) W' ∧ I W') := fun W' h1 h2 => ⟨j + 1, by omega, by push_cast; rfl, by rw [hps, if_pos rfl, List.map_append]; exact h1, h2⟩
        clear hps hpl h64 hR hmx hj
        simp only [Bool.not_true] at q4
        gi_wp2
        refine HR.out.mono ?_
        rintro e' W' ⟨rfl, hJ', hK'⟩
        have HF := Lib.hid (HS.out W' hJ' (HK.out _ _ HII.out hK'))
        clear hJ' hK' hrun HR HS
        gi_wp2
        exact ⟨HF.out, by simp [intOf]; have := H64.out; omega⟩
    · obtain rfl : j = 64 := by omega
      have HF := Lib.hid (HQ.out V HJ.out)
      gi_wp2
      exact bodyPost_end (results_none rfl _ _ _) rfl HF.out
theorem ahead_none (n : Nat) {k : Nat} {X : Nat → Prop} {w : World} (hk : w.cell? ⟨k, 0, none⟩ = some (.pointer none)) :
    TellsP n Tryd.prog 23 #[.pointer (some ⟨k, 0, none⟩)] (fun x : Nat => #[.int .u32 (x : Int)]) (fun A B => A = B) (KpF w.heap.size X) (fun xs _ => xs = []) (fun pre x => pre ++ [x] <+: []) w := by
  intro y J W hB hJ hY h0
  have ck : W.cell? ⟨k, 0, none⟩ = some (.pointer none) := (World.cell?_of_block (hB.block k (World.block_lt_of_cell? w _ hk))).trans hk
  obtain ⟨P, hP⟩ : ∃ P : Ending → World → Prop, P = fun e' W' => (∃ v, e' = .returned v) ∧ ∃ xs, xs = ([] : List Nat) ∧ J xs W' := ⟨_, rfl⟩
  have HF : Hid (P (.returned (.tuple #[])) W) := by rw [hP]; exact ⟨⟨_, rfl⟩, _, rfl, h0⟩
  rw [← hP]
  clear hP hY h0 hJ hB hk
  refine callsIn_of_wp Tryd.func23 rfl trivial ?_ rfl
  simp only [Tryd.ntmps23, List.size_toArray, List.length_cons, List.length_nil, Nat.reduceAdd, Nat.reduceSub, Array.replicate_succ, Array.replicate_zero, List.push_toArray, List.append_toArray, List.nil_append, List.cons_append]
  refine wpIn_wide.2 (wp_scope_straight ((wpIn_wide (n := n)).1 ?_))
  gi_wp2
  exact bodyPost_ret (results_none rfl _ _ _) rfl HF.out
end Go.Proofs.YtcbgadjnheagmaaDoor
