/-
  The walk of the iterator that tells the cells beside a cell.
-/
import Derived.Test.YtekhlaodlagbdaaGreatDoorRows
import Derived.Test.YtekhlaodlagbdaaGreatDoorHeap
import Derived.RangeFuncNested
import Derived.RangeFuncBound
import Derived.RangeFuncCalls
import Derived.RangeFuncLeaves
import Derived.Shelf.Abstract
import Derived.Shelf.RegionOpen
import Derived.WalkKit
import Derived.OwnWalkIn
import Derived.TacticsInMore
import Derived.LoopNIn
import Derived.LoopIn
import Derived.Deep.QuietTactic
import Derived.BigQuiet
import Derived.Sort.QuietIn
import Derived.Stop.RegionWithIn
namespace Go.Proofs.YtekhlaodlagbdaaGreatDoor
set_option maxRecDepth 100000
open Go.RowKit
attribute [local go_sem] Oper.semAt_some

/-- The ways' table as it lies in memory. -/
def waysL : List Value := [.int .u8 94, .int .u8 118, .int .i64 (-1), .int .i64 0, .int .u8 60, .int .u8 62, .int .i64 0, .int .i64 (-1), .int .u8 62, .int .u8 60, .int .i64 0, .int .i64 1, .int .u8 118, .int .u8 94, .int .i64 1, .int .i64 0]
def Ways (w : World) : Prop := ∀ j u, waysL[j]? = some u → w.cell? ⟨0, j, none⟩ = some u

def mkK (k : Nat) : Int := if k = 0 then 94 else if k = 1 then 60 else if k = 2 then 62 else 118
def agK (k : Nat) : Int := if k = 0 then 118 else if k = 1 then 62 else if k = 2 then 60 else 94
def dnK (k : Nat) : Int := if k = 0 then -1 else if k = 3 then 1 else 0
def rtK (k : Nat) : Int := if k = 1 then -1 else if k = 2 then 1 else 0
theorem dnK_bd (k : Nat) : -1 ≤ dnK k ∧ dnK k ≤ 1 := by unfold dnK; split <;> (try split) <;> omega
theorem rtK_bd (k : Nat) : -1 ≤ rtK k ∧ rtK k ≤ 1 := by unfold rtK; split <;> (try split) <;> omega
/-- A way as a value. -/
def wayV (k : Nat) : Value := .agg #[.int .u8 (mkK k), .int .u8 (agK k), .int .i64 (dnK k), .int .i64 (rtK k)]
theorem ways_index0 : ∀ w, (Instr.index 172 (.agg waysL.toArray) (.int .i64 0)).run Tryz.prog w = .ok (wayV 0) w := fun _ => by kernel_rfl
theorem ways_index1 : ∀ w, (Instr.index 172 (.agg waysL.toArray) (.int .i64 1)).run Tryz.prog w = .ok (wayV 1) w := fun _ => by kernel_rfl
theorem ways_index2 : ∀ w, (Instr.index 172 (.agg waysL.toArray) (.int .i64 2)).run Tryz.prog w = .ok (wayV 2) w := fun _ => by kernel_rfl
theorem ways_index3 : ∀ w, (Instr.index 172 (.agg waysL.toArray) (.int .i64 3)).run Tryz.prog w = .ok (wayV 3) w := fun _ => by kernel_rfl
theorem ways_index {k : Nat} (hk : k < 4) (w : World) : (Instr.index 172 (.agg waysL.toArray) (.int .i64 (k : Int))).run Tryz.prog w = .ok (wayV k) w := by
  have h : k = 0 ∨ k = 1 ∨ k = 2 ∨ k = 3 := by omega
  rcases h with rfl | rfl | rfl | rfl
  · exact ways_index0 w
  · exact ways_index1 w
  · exact ways_index2 w
  · exact ways_index3 w

/-- The cell to which way k leads from cell a. -/
def side (R C a k : Nat) : Option Nat :=
  if 0 ≤ ((a / C : Nat) : Int) + dnK k ∧ ((a / C : Nat) : Int) + dnK k < (R : Int) ∧ 0 ≤ ((a % C : Nat) : Int) + rtK k ∧ ((a % C : Nat) : Int) + rtK k < (C : Int) then
    some ((((a / C : Nat) : Int) + dnK k) * (C : Int) + (((a % C : Nat) : Int) + rtK k)).toNat else none
/-- What the first k ways tell, in their order. -/
def sidesK (R C a k : Nat) : List (Nat × Nat) := (List.range k).filterMap (fun j => (side R C a j).map (fun b => (b, j)))
theorem sidesK_some {R C a k b : Nat} (h : side R C a k = some b) : sidesK R C a (k + 1) = sidesK R C a k ++ [(b, k)] := by
  simp only [sidesK, List.range_succ, List.filterMap_append, List.filterMap_cons, h, Option.map_some, List.filterMap_nil]
theorem sidesK_none {R C a k : Nat} (h : side R C a k = none) : sidesK R C a (k + 1) = sidesK R C a k := by
  simp only [sidesK, List.range_succ, List.filterMap_append, List.filterMap_cons, h, Option.map_none, List.filterMap_nil, List.append_nil]

theorem sidesK_le (R C a k : Nat) : (sidesK R C a k).length ≤ k := Nat.le_trans (List.length_filterMap_le _ _) (by simp)

/-- What a round is handed: a cell, and the way that leads there. -/
abbrev Side (R C a : Nat) : Type := { x : Nat × Nat // x.2 < 4 ∧ side R C a x.2 = some x.1 }
/-- What a round keeps: the map's two numbers, and what the iterator has captured. -/
def KeepsSide (b B1 B2 : Nat) (W W' : World) : Prop :=
  ∀ p v, (p = ⟨b, 0, none⟩ ∨ p = ⟨b, 1, none⟩ ∨ p = ⟨B1, 0, none⟩ ∨ p = ⟨B2, 0, none⟩) → W.cell? p = some v → W'.cell? p = some v

theorem KeepsSide.refl (b B1 B2 : Nat) (W : World) : KeepsSide b B1 B2 W W := fun _ _ _ h => h
theorem KeepsSide.trans {b B1 B2 : Nat} {X Y Z : World} (h : KeepsSide b B1 B2 X Y) (k : KeepsSide b B1 B2 Y Z) : KeepsSide b B1 B2 X Z := fun p v hp hv => k p v hp (h p v hp hv)
theorem KeepsSide.alloc (b B1 B2 : Nat) (W : World) (o : Obj) : KeepsSide b B1 B2 W (W.alloc o) := fun p v _ hv => by
  have hlt := World.block_lt_of_cell? W p hv
  rw [World.cell?_of_block (w := W) (w' := W.alloc o) (Below.heap_alloc W o p.block hlt)]; exact hv

set_option maxRecDepth 100000 in
set_option maxHeartbeats 2000000 in
theorem sides1_in (n : Nat) (hn : 1 ≤ n) (l B1 B2 b : Nat) (R C a : Nat) (hC : 1 ≤ C) (hC2 : C ≤ 32) (hR : R ≤ 32) (ha : a < R * C)
    (W : World) (hw : Ways W) (h1 : W.cell? ⟨B1, 0, none⟩ = some (.int .i64 (a : Int))) (h2 : W.cell? ⟨B2, 0, none⟩ = some (.pointer (some ⟨b, 0, none⟩)))
    (hr : W.cell? ⟨b, 0, none⟩ = some (.int .i64 (R : Int))) (hc : W.cell? ⟨b, 1, none⟩ = some (.int .i64 (C : Int)))
    (J Jx : List (Side R C a) → World → Prop) (hJ : AbidesFrom W.heap.size J)
    (hY : ∀ pre x W1, J pre W1 → pre.length < 4 → YieldAt Fence.wide (n - 1) Tryz.prog l #[.int .i64 (x.1.1 : Int), wayV x.1.2] W1 fun e W' =>
      (e = .returned (.bool true) ∧ J (pre ++ [x]) W' ∧ KeepsSide b B1 B2 W1 W') ∨ (e = .returned (.bool false) ∧ Jx (pre ++ [x]) W'))
    (h0 : J [] W) :
    CallsIn Fence.wide n Tryz.prog 137 #[.func (.yield l) #[] #[], .pointer (some ⟨B1, 0, none⟩), .pointer (some ⟨B2, 0, none⟩)] W fun e W' => (∃ v, e = .returned v) ∧
      ((∃ xs : List (Side R C a), xs.map (·.1) = sidesK R C a 4 ∧ J xs W') ∨ (∃ pre, True ∧ Jx pre W')) := by
  have g0 := hw 0 _ rfl; have g1 := hw 1 _ rfl; have g2 := hw 2 _ rfl; have g3 := hw 3 _ rfl
  have g4 := hw 4 _ rfl; have g5 := hw 5 _ rfl; have g6 := hw 6 _ rfl; have g7 := hw 7 _ rfl
  have g8 := hw 8 _ rfl; have g9 := hw 9 _ rfl; have g10 := hw 10 _ rfl; have g11 := hw 11 _ rfl
  have g12 := hw 12 _ rfl; have g13 := hw 13 _ rfl; have g14 := hw 14 _ rfl; have g15 := hw 15 _ rfl
  clear hw
  refine callsIn_of_wp Tryz.func137 rfl trivial ?_ rfl
  simp only [Tryz.ntmps137, List.size_toArray, List.length_cons, List.length_nil, Nat.reduceAdd, Nat.reduceSub, Array.replicate_succ, Array.replicate_zero, List.push_toArray, List.append_toArray, List.nil_append, List.cons_append]
  gi_wp2
  clear g0 g1 g2 g3 g4 g5 g6 g7 g8 g9 g10 g11 g12 g13 g14 g15
  gi_loopw [10] (fun i wr => ∃ (k : Nat) (pre : List (Side R C a)), k ≤ 4 ∧ i = .int .i64 k ∧ pre.map (·.1) = sidesK R C a k ∧ J pre wr ∧ KeepsSide b B1 B2 W wr) (fun i _ => 4 - (intOf i).toNat)
  case atStart => exact ⟨0, [], by omega, rfl, rfl, h0, KeepsSide.refl _ _ _ _⟩
  case round =>
    obtain ⟨k, pre, hk, rfl, hpre, hJs, hkp⟩ := hrel
    have k1 := hkp _ _ (.inr (.inr (.inl rfl))) h1
    have k2 := hkp _ _ (.inr (.inr (.inr rfl))) h2
    have kr := hkp _ _ (.inl rfl) hr
    have kc := hkp _ _ (.inr (.inl rfl)) hc
    by_cases hk4 : k < 4
    · have q1 : (a : Int) / (C : Int) = ((a / C : Nat) : Int) := by omega
      have q2 : (a : Int).tdiv (C : Int) = ((a / C : Nat) : Int) := by rw [Int.tdiv_eq_ediv_of_nonneg (by omega)]; exact q1
      have q3 : (a : Int) % (C : Int) = ((a % C : Nat) : Int) := by omega
      have q4 : (a : Int).tmod (C : Int) = ((a % C : Nat) : Int) := by rw [Int.tmod_eq_emod_of_nonneg (by omega)]; exact q3
      have q5 : ((C : Int) == 0) = false := by rw [beq_eq_false_iff_ne]; omega
      have q6 : a / C < R := by rw [Nat.div_lt_iff_lt_mul (by omega)]; exact ha
      have q7 : a % C < C := Nat.mod_lt _ (by omega)
      have hd := dnK_bd k
      have hr2 := rtK_bd k
      have hidx := fun w => ways_index hk4 w
      have hsd : Hid (side R C a k = if 0 ≤ ((a / C : Nat) : Int) + dnK k ∧ ((a / C : Nat) : Int) + dnK k < (R : Int) ∧ 0 ≤ ((a % C : Nat) : Int) + rtK k ∧ ((a % C : Nat) : Int) + rtK k < (C : Int) then
          some ((((a / C : Nat) : Int) + dnK k) * (C : Int) + (((a % C : Nat) : Int) + rtK k)).toNat else none) := rfl
      have HPL : Hid (pre.length ≤ k) := by
        have := congrArg List.length hpre
        rw [List.length_map] at this
        show _ ≤ _
        rw [this]; exact sidesK_le _ _ _ _
      have w3 : Hid (wayV k = .agg #[.int .u8 (mkK k), .int .u8 (agK k), .int .i64 (dnK k), .int .i64 (rtK k)]) := rfl
      rw [w3.out] at hidx
      simp only [waysL] at hidx
      generalize a / C = q at *
      generalize a % C = m at *
      generalize mkK k = mk at *
      generalize agK k = ag at *
      generalize dnK k = dn at *
      generalize rtK k = rt at *
      have hnd : ((q : Int) + dn) * (C : Int) + ((m : Int) + rt) < 3000 := by
        have h1 : ((q : Int) + dn) * (C : Int) ≤ 40 * (C : Int) := Int.mul_le_mul_of_nonneg_right (by omega) (by omega)
        omega
      by_cases hin : 0 ≤ (q : Int) + dn ∧ (q : Int) + dn < (R : Int) ∧ 0 ≤ (m : Int) + rt ∧ (m : Int) + rt < (C : Int)
      · have HIN : Hid (0 ≤ (q : Int) + dn ∧ (q : Int) + dn < (R : Int) ∧ 0 ≤ (m : Int) + rt ∧ (m : Int) + rt < (C : Int)) := hin
        have HND : Hid (((q : Int) + dn) * (C : Int) + ((m : Int) + rt) < 3000) := hnd
        clear hin hnd
        gi_wp2
        have HK2 : Hid (KeepsSide b B1 B2 W (wr.alloc (.cells #[.int .u8 mk, .int .u8 ag, .int .i64 dn, .int .i64 rt] 142))) := hkp.trans (KeepsSide.alloc _ _ _ _ _)
        have HJ2 : Hid (J pre (wr.alloc (.cells #[.int .u8 mk, .int .u8 ag, .int .i64 dn, .int .i64 rt] 142))) := hJ _ _ _ none hJs (World.grownBy_alloc _ _ _) (fun r e => by cases e)
        have z0 : (wr.alloc (.cells #[.int .u8 mk, .int .u8 ag, .int .i64 dn, .int .i64 rt] 142)).cell? ⟨wr.heap.size, 0, none⟩ = some (.int .u8 mk) := by rw [World.cell?_alloc_at _ _ _ _ rfl]; rfl
        have z1 : (wr.alloc (.cells #[.int .u8 mk, .int .u8 ag, .int .i64 dn, .int .i64 rt] 142)).cell? ⟨wr.heap.size, 1, none⟩ = some (.int .u8 ag) := by rw [World.cell?_alloc_at _ _ _ _ rfl]; rfl
        have z2 : (wr.alloc (.cells #[.int .u8 mk, .int .u8 ag, .int .i64 dn, .int .i64 rt] 142)).cell? ⟨wr.heap.size, 2, none⟩ = some (.int .i64 dn) := by rw [World.cell?_alloc_at _ _ _ _ rfl]; rfl
        have z3 : (wr.alloc (.cells #[.int .u8 mk, .int .u8 ag, .int .i64 dn, .int .i64 rt] 142)).cell? ⟨wr.heap.size, 3, none⟩ = some (.int .i64 rt) := by rw [World.cell?_alloc_at _ _ _ _ rfl]; rfl
        have j1 := HK2.out _ _ (.inr (.inr (.inl rfl))) h1
        have j2 := HK2.out _ _ (.inr (.inr (.inr rfl))) h2
        have jr := HK2.out _ _ (.inl rfl) hr
        have jc := HK2.out _ _ (.inr (.inl rfl)) hc
        generalize wr.alloc (.cells #[.int .u8 mk, .int .u8 ag, .int .i64 dn, .int .i64 rt] 142) = w2 at HK2 HJ2 z0 z1 z2 z3 j1 j2 jr jc ⊢
        generalize wr.heap.size = B5 at z0 z1 z2 z3 ⊢
        clear k1 k2 kr kc hkp hJs h1 h2 hr hc
        gi_quiet (fail)
        generalize (q : Int) + dn = rr at HIN HND hsd ⊢
        generalize (m : Int) + rt = cc at HIN HND hsd ⊢
        have HJ3 : Hid (∀ n, J pre (w2.drewN n)) := fun n => hJ _ _ _ none HJ2.out ⟨rfl, rfl, rfl, Nat.le_refl _, fun _ _ _ => rfl⟩ (fun r e => by cases e)
        have HK3 : Hid (∀ n, KeepsSide b B1 B2 W (w2.drewN n)) := fun n => HK2.out
        have hx : side R C a k = some (rr * (C : Int) + cc).toNat := by rw [hsd.out, if_pos HIN.out]
        have hxx : k < 4 ∧ side R C a k = some (rr * (C : Int) + cc).toNat := ⟨hk4, hx⟩
        obtain ⟨i1, i2, i3, i4⟩ := HIN.out
        have hnn : 0 ≤ rr * (C : Int) := Int.mul_nonneg i1 (by omega)
        have hnb : rr * (C : Int) + cc < 3000 := HND.out
        obtain ⟨fn, tmps, assign, body, hy, hR⟩ := hY pre ⟨((rr * (C : Int) + cc).toNat, k), hxx⟩ (w2.drewN (nq + 1)) (HJ3.out (nq + 1)) (by have := HPL.out; omega)
        dsimp only at hy
        rw [Int.toNat_of_nonneg (by omega), w3.out] at hy
        have HRR : Hid (RoundIn Fence.wide (n - 1) Tryz.prog l fn tmps assign body (w2.drewN (nq + 1)) fun e W' => ∃ t : Bool, e = .returned (.bool t) ∧ ((t = true ∧ J (pre ++ [(⟨((rr * (C : Int) + cc).toNat, k), hxx⟩ : Side R C a)]) W' ∧ KeepsSide b B1 B2 (w2.drewN (nq + 1)) W') ∨ (t = false ∧ Jx (pre ++ [(⟨((rr * (C : Int) + cc).toNat, k), hxx⟩ : Side R C a)]) W'))) := by
          refine hR.mono ?_
          rintro e W' (⟨rfl, h1, h2⟩ | ⟨rfl, h1⟩)
          · exact ⟨true, rfl, .inl ⟨rfl, h1, h2⟩⟩
          · exact ⟨false, rfl, .inr ⟨rfl, h1⟩⟩
        have v1 : IntKind.i64.wrap (rr * (C : Int)) = rr * (C : Int) := IntWalk.i64_in _ (by omega)
        have v2 : IntKind.i64.wrap (rr * (C : Int) + cc) = rr * (C : Int) + cc := IntWalk.i64_in _ (by omega)
        clear hx hR hidx q1 q2 q3 q4 q5 q6 q7 hd hr2 hsd HIN HND hY
        gi_wp2
        gi_region_with (refine HRR.out.mono ?_; rintro e W3 ⟨t, rfl, ht⟩)
        all_goals
          rcases ht with ⟨rfl, hJ4, hk4'⟩ | ⟨rfl, hJx4⟩
          · have HX : Hid (KeepsSide b B1 B2 W W3) := (HK3.out _).trans hk4'
            have HM : Hid ((pre ++ [(⟨((rr * (C : Int) + cc).toNat, k), hxx⟩ : Side R C a)]).map (·.1) = sidesK R C a (k + 1)) := by
              show _ = _
              rw [List.map_append, hpre, sidesK_some hxx.2]; rfl
            have HJ4 : Hid (J (pre ++ [(⟨((rr * (C : Int) + cc).toNat, k), hxx⟩ : Side R C a)]) W3) := hJ4
            clear hJ4 hk4' hy HRR
            gi_wp2
            go_roundw
            case rel => exact ⟨k + 1, _, by omega, by simp, HM.out, HJ4.out, HX.out⟩
            case measure => simp [intOf]; omega
          · have HJ4 : Hid (Jx (pre ++ [(⟨((rr * (C : Int) + cc).toNat, k), hxx⟩ : Side R C a)]) W3) := hJx4
            clear hJx4 hy HRR
            gi_wp2
            refine bodyPost_ret (results_none rfl _ _ _) rfl ?_
            exact ⟨⟨_, rfl⟩, .inr ⟨_, trivial, HJ4.out⟩⟩
      · have hx : Hid (side R C a k = none) := by
          show _ = _
          rw [hsd.out, if_neg hin]
        clear hnd hsd
        gi_wp2
        have HK2 : Hid (KeepsSide b B1 B2 W (wr.alloc (.cells #[.int .u8 mk, .int .u8 ag, .int .i64 dn, .int .i64 rt] 142))) := hkp.trans (KeepsSide.alloc _ _ _ _ _)
        have HJ2 : Hid (J pre (wr.alloc (.cells #[.int .u8 mk, .int .u8 ag, .int .i64 dn, .int .i64 rt] 142))) := hJ _ _ _ none hJs (World.grownBy_alloc _ _ _) (fun r e => by cases e)
        have z0 : (wr.alloc (.cells #[.int .u8 mk, .int .u8 ag, .int .i64 dn, .int .i64 rt] 142)).cell? ⟨wr.heap.size, 0, none⟩ = some (.int .u8 mk) := by rw [World.cell?_alloc_at _ _ _ _ rfl]; rfl
        have z1 : (wr.alloc (.cells #[.int .u8 mk, .int .u8 ag, .int .i64 dn, .int .i64 rt] 142)).cell? ⟨wr.heap.size, 1, none⟩ = some (.int .u8 ag) := by rw [World.cell?_alloc_at _ _ _ _ rfl]; rfl
        have z2 : (wr.alloc (.cells #[.int .u8 mk, .int .u8 ag, .int .i64 dn, .int .i64 rt] 142)).cell? ⟨wr.heap.size, 2, none⟩ = some (.int .i64 dn) := by rw [World.cell?_alloc_at _ _ _ _ rfl]; rfl
        have z3 : (wr.alloc (.cells #[.int .u8 mk, .int .u8 ag, .int .i64 dn, .int .i64 rt] 142)).cell? ⟨wr.heap.size, 3, none⟩ = some (.int .i64 rt) := by rw [World.cell?_alloc_at _ _ _ _ rfl]; rfl
        have j1 := HK2.out _ _ (.inr (.inr (.inl rfl))) h1
        have j2 := HK2.out _ _ (.inr (.inr (.inr rfl))) h2
        have jr := HK2.out _ _ (.inl rfl) hr
        have jc := HK2.out _ _ (.inr (.inl rfl)) hc
        generalize wr.alloc (.cells #[.int .u8 mk, .int .u8 ag, .int .i64 dn, .int .i64 rt] 142) = w2 at HK2 HJ2 z0 z1 z2 z3 j1 j2 jr jc ⊢
        generalize wr.heap.size = B5 at z0 z1 z2 z3 ⊢
        clear k1 k2 kr kc hkp hJs h1 h2 hr hc
        gi_quiet (fail)
        have HJ3 : Hid (∀ n, J pre (w2.drewN n)) := fun n => hJ _ _ _ none HJ2.out ⟨rfl, rfl, rfl, Nat.le_refl _, fun _ _ _ => rfl⟩ (fun r e => by cases e)
        have HK3 : Hid (∀ n, KeepsSide b B1 B2 W (w2.drewN n)) := fun n => HK2.out
        have HM : Hid (pre.map (·.1) = sidesK R C a (k + 1)) := by
          show _ = _
          rw [hpre, sidesK_none hx.out]
        generalize (q : Int) + dn = rr at hin ⊢
        generalize (m : Int) + rt = cc at hin ⊢
        clear hx hidx q1 q2 q3 q4 q5 q6 q7 hd hr2 hY hpre
        by_cases i1 : 0 ≤ rr
        · by_cases i2 : rr < (R : Int)
          · by_cases i3 : 0 ≤ cc
            · have i4 : ¬ cc < (C : Int) := fun i4 => hin ⟨i1, i2, i3, i4⟩
              have hdd : decide (cc < (C : Int)) = false := decide_eq_false i4
              clear hin
              gi_wp2
              refine wpIn_region_quiet_lit rfl (by kernel_rfl) (by kernel_rfl) ?_
              repeat (gi_big_quiet_step (fail))
              refine BigFrame.wpQuietIn_skip (fun _ _ _ _ => trivial) rfl ?_
              go_simp
              repeat (gi_big_quiet_step (fail))
              refine wpQuietIn_nil ?_
              intro nq2
              gi_wp2
              go_roundw
              case rel => exact ⟨k + 1, pre, by omega, by simp, HM.out, HJ3.out _, HK3.out _⟩
              case measure => simp [intOf]; omega
            · have hdd : decide (0 ≤ cc) = false := decide_eq_false i3
              clear hin
              gi_wp2
              refine wpIn_region_quiet_lit rfl (by kernel_rfl) (by kernel_rfl) ?_
              repeat (gi_big_quiet_step (fail))
              refine BigFrame.wpQuietIn_skip (fun _ _ _ _ => trivial) rfl ?_
              go_simp
              repeat (gi_big_quiet_step (fail))
              refine wpQuietIn_nil ?_
              intro nq2
              gi_wp2
              go_roundw
              case rel => exact ⟨k + 1, pre, by omega, by simp, HM.out, HJ3.out _, HK3.out _⟩
              case measure => simp [intOf]; omega
          · have hdd : decide (rr < (R : Int)) = false := decide_eq_false i2
            clear hin
            gi_wp2
            refine wpIn_region_quiet_lit rfl (by kernel_rfl) (by kernel_rfl) ?_
            repeat (gi_big_quiet_step (fail))
            refine BigFrame.wpQuietIn_skip (fun _ _ _ _ => trivial) rfl ?_
            go_simp
            repeat (gi_big_quiet_step (fail))
            refine wpQuietIn_nil ?_
            intro nq2
            gi_wp2
            go_roundw
            case rel => exact ⟨k + 1, pre, by omega, by simp, HM.out, HJ3.out _, HK3.out _⟩
            case measure => simp [intOf]; omega
        · have hdd : decide (0 ≤ rr) = false := decide_eq_false i1
          clear hin
          gi_wp2
          refine wpIn_region_quiet_lit rfl (by kernel_rfl) (by kernel_rfl) ?_
          repeat (gi_big_quiet_step (fail))
          refine BigFrame.wpQuietIn_skip (fun _ _ _ _ => trivial) rfl ?_
          go_simp
          repeat (gi_big_quiet_step (fail))
          refine wpQuietIn_nil ?_
          intro nq2
          gi_wp2
          go_roundw
          case rel => exact ⟨k + 1, pre, by omega, by simp, HM.out, HJ3.out _, HK3.out _⟩
          case measure => simp [intOf]; omega
    · obtain rfl : k = 4 := by omega
      gi_wp2
      go_end0
      exact ⟨⟨_, rfl⟩, .inl ⟨pre, hpre, hJs⟩⟩
end Go.Proofs.YtekhlaodlagbdaaGreatDoor
