/- Joined texts: Round, Find, Body, Go. -/
import Derived.Test.YtekhlaodlagbdaaGreatDoorSides
import Derived.Test.YtekhlaodlagbdaaGreatDoorW2
import Derived.Deep.RegionHeld3
import Derived.RangeFuncCalls
import Derived.WalkKit
import Derived.RegionIn
import Derived.Laws.MakeOwn
import Derived.Deep.AppendLies

/-
  A region of open order inside a round of a range over a function: what holds of it outside of one holds of it there, where it holds no defer statement and nothing in it outgrows.
-/
namespace Go.Proofs.YtekhlaodlagbdaaGreatDoor
set_option maxRecDepth 100000
open Go

/-- Q, but nothing at all where the run outgrows or panics. -/
def Calm (Q : Exit → Act → World → Prop) : Exit → Act → World → Prop
  | .outgrown, _, _ => False
  | .panic _, _, _ => False
  | e, a, w => Q e a w

def noDefer (ops : Array Oper) : Bool := ops.all fun o => match o.op with | .defer _ => false | _ => true

theorem noDefer_spec {ops : Array Oper} (h : noDefer ops = true) {i : Nat} {o : Oper} (ho : ops[i]? = some o) : ∀ c, o.op ≠ .defer c := by
  intro c hc
  have hm : o ∈ ops := Array.mem_of_getElem? ho
  have := (Array.all_eq_true_iff_forall_mem.1 h) o hm
  rw [hc] at this
  cases this

section
variable {l n : Nat} {P : Program} {ops : Array Oper} {Q : Exit → Act → World → Prop} {md : Region.Mode}

theorem wpOpIn_of_op (hnd : noDefer ops = true) {i : Nat} {K K' : Act → World → Prop} (hK : ∀ a w, K a w → K' a w) {a : Act} {w : World}
    (h : wpOp P ops (Calm Q) i K a w) : wpOpIn (Fence.wide.inRound l) n P ops Q i K' a w := by
  unfold wpOp at h
  unfold wpOpIn
  cases ho : ops[i]? with
  | none => rw [ho] at h; exact hK _ _ h
  | some o =>
    rw [ho] at h
    dsimp only at h ⊢
    split
    · rename_i hw
      rw [if_pos hw] at h
      rcases h with h | ⟨_, a', w', h⟩
      case inr => exact h.elim
      refine ⟨fun _ _ => trivial, ?_⟩
      rw [Oper.semAt_eq _ _ _ (noDefer_spec hnd ho)]
      unfold Oper.wp at h
      have hd : ((Fence.wide.inRound l).depth.isSome = true → 1 ≤ n) := fun h => by cases h
      generalize (execOp a.eval o).run P w = r at *
      cases r with
      | ok x w' =>
        cases x <;> simp only [Oper.upon, Oper.uponIn] at h ⊢
        case value u => exact hK _ _ h
        case skip => exact hK _ _ h
        case defer d => exact hK _ _ h
        case enter f args =>
          refine ⟨hd, CallsIn.inRound l (callsIn_wide.2 (Calls.mono h fun e w'' he => ?_))⟩
          cases e with
          | returned u => exact hK _ _ he
          | panicked c => exact he.elim
          | outgrown => obtain ⟨_, _, h⟩ := he; exact h.elim
        case row row args =>
          refine ⟨hd, ?_⟩
          intro c cs _
          obtain ⟨v, w'', hr, hs⟩ := h c cs
          exact ⟨v, w'', hK _ _ hr, stepsIn_wide.2 hs⟩
      | halt x w' =>
        cases x <;> simp only [Oper.upon, Oper.uponIn] at h ⊢
        case panic u => exact h.elim
    · rename_i hw
      rw [if_neg hw] at h
      exact ⟨fun _ _ => trivial, hK _ _ h⟩

theorem wpAnyIn_of_any (hnd : noDefer ops = true) : ∀ (fuel : Nat) (listed : Array Bool) (a : Act) (w : World),
    wpAny P md ops (Calm Q) fuel listed a w → wpAnyIn (Fence.wide.inRound l) n P md ops Q fuel listed a w
  | 0, _, _, _, h => ⟨h.1, h.2⟩
  | fuel + 1, _, _, _, h => ⟨fun hr => h.1 hr, fun i hi => wpOpIn_of_op hnd (fun a' w' h' => wpAnyIn_of_any hnd fuel _ a' w' h') (h.2 i hi)⟩

/-- The beginning. -/
theorem wpIn_region_held {S : World → Prop} {id : Nat} {a : Act} {w : World} (hm : P.follows .mixedOrders = true) (hnd : noDefer ops = true) (hS : S w.drew)
    (h : S w.drew → wpAnyH P .any ops (Calm Q) S ops.size (Array.replicate ops.size false) a w.drew) :
    (Code.region id ops true).wpIn (Fence.wide.inRound l) n P Q a w :=
  wpIn_region_any hm (wpAnyIn_of_any hnd _ _ _ _ (wpAny_of_held _ _ _ _ (h hS)))
end
end Go.Proofs.YtekhlaodlagbdaaGreatDoor

/-
  The walk of findEdges.
-/
namespace Go.Proofs.YtekhlaodlagbdaaGreatDoor
set_option maxRecDepth 100000
open Go.RowKit
attribute [local go_sem] Oper.semAt_some

/-- 'sides': what it captures. -/
theorem sides_any (b a : Nat) (w : World) :
    Calls Tryz.prog 103 #[.pointer (some ⟨b, 0, none⟩), .int .i64 (a : Int)] w fun e w' => e = .returned (.func (.func 137) #[] #[.pointer (some ⟨w.heap.size + 1, 0, none⟩), .pointer (some ⟨w.heap.size, 0, none⟩)]) ∧
      w' = (w.alloc (.cells #[.pointer (some ⟨b, 0, none⟩)] 23)).alloc (.cells #[.int .i64 (a : Int)] 3) := by
  have hmf : ∀ (fn : Fn) (first cap : Array Value) (w : World), (Instr.makeFunc fn first cap).run Tryz.prog w = .ok (.func fn first cap) w := fun _ _ _ _ => rfl
  go_enter Tryz.func103, Tryz.ntmps103
  go_wp2
  go_ret
  exact ⟨rfl, rfl⟩

/-- May the way k be gone from a cell of mark c into one of mark d? -/
def leavesB (k : Nat) (c : UInt8) : Bool := (((c.toNat : Nat) : Int) == 46) || (((c.toNat : Nat) : Int) == mkK k)
def entersB (k : Nat) (d : UInt8) : Bool := (((d.toNat : Nat) : Int) != 35) && (((d.toNat : Nat) : Int) != agK k)

theorem leaves_any (k : Nat) (c : UInt8) (w : World) :
    Calls Tryz.prog 104 #[wayV k, .int .u8 (c.toNat : Int)] w fun e w' => e = .returned (.bool (leavesB k c)) ∧ ∃ o, w' = w.alloc (.cells o 142) := by
  unfold wayV leavesB
  generalize mkK k = mk
  generalize agK k = ag
  generalize dnK k = dn
  generalize rtK k = rt
  go_enter Tryz.func104, Tryz.ntmps104
  go_wp2
  all_goals
    go_ret
    refine ⟨?_, _, rfl⟩
    simp [*]

theorem enters_any (k : Nat) (c : UInt8) (w : World) :
    Calls Tryz.prog 105 #[wayV k, .int .u8 (c.toNat : Int)] w fun e w' => e = .returned (.bool (entersB k c)) ∧ ∃ o, w' = w.alloc (.cells o 142) := by
  unfold wayV entersB
  generalize mkK k = mk
  generalize agK k = ag
  generalize dnK k = dn
  generalize rtK k = rt
  go_enter Tryz.func105, Tryz.ntmps105
  go_wp2
  all_goals
    go_ret
    refine ⟨?_, _, rfl⟩
    simp [*]

/-- What a map's block holds. -/
def cellsE (R C : Nat) (v : Value) (dn st : Int) (nx bk : Value) (ed : Nat) : Array Value :=
  #[.int .i64 (R : Int), .int .i64 (C : Int), v, .int .u32 dn, .int .i32 st, .int .u32 0, nx, bk, .int .i64 (ed : Int)]

theorem Tryz.infoInts : (Tryz.prog.info? 36).map (fun i => (i.zero, i.size, i.bytes)) = some (some (.slice none 0 0), 1, 24) := by kernel_rfl

theorem makeRows_run (N : Nat) (hN : N ≤ 100000) (w : World) : (Instr.makeSlice 37 (.int .i64 (N : Int)) (.int .i64 (N : Int))).run Tryz.prog w = .ok (.slice (some ⟨w.heap.size, 0, none⟩) N N) (w.alloc (.cells (madeCells #[.slice none 0 0] N) 36)) := by
  obtain ⟨i0, hi, hz0, hz1, hz2⟩ := info_parts Tryz.infoInts
  have := run_make (P := Tryz.prog) w 37 36 i0 (.slice none 0 0) Tryz.underlying37 hi hz0 .i64 .i64 (N : Int) (N : Int) (by omega) (Int.le_refl _) (by rw [hz2]; omega) (by omega)
  simpa [hz1, Value.cells] using this

end Go.Proofs.YtekhlaodlagbdaaGreatDoor

/-
  findEdges: the body of the round.
-/
namespace Go.Proofs.YtekhlaodlagbdaaGreatDoor
set_option maxRecDepth 100000
set_option linter.unusedSimpArgs false
open Go.RowKit
attribute [local go_sem] Oper.semAt_some

def regAt (k : Nat) : Code → Option (Array Oper)
  | .seq a b => (regAt k a).orElse fun _ => regAt k b
  | .block _ c => regAt k c
  | .loop c => regAt k c
  | .scope c => regAt k c
  | .rangeFunc _ _ _ c => regAt k c
  | .region j ops _ => if j = k then some ops else none
  | _ => none

section
variable {P : Program} {Q : Exit → Act → World → Prop} {S : World → Prop}
theorem take_at {L : List Oper} {i : Nat} {oi : Oper} {v : Value} {fuel : Nat} {listed : Array Bool} {a : Act} {w : World} (hi : L[i]? = some oi)
    (hs : Region.noSelect L.toArray = true) (hf : Region.free .any L.toArray listed i = true) (hr : (Region.ready .any L.toArray listed).contains i = true)
    (hQ : ∀ c a w, Q (.panic c) (a.put oi.dst v) w → Q (.panic c) a w) (hy : YieldsIf P L.toArray S oi v a) (hS : S w)
    (h : wpAnyH P .any L.toArray Q S fuel (listed.setIfInBounds i true) (a.put oi.dst v) w) : wpAnyH P .any L.toArray Q S (fuel + 1) listed a w :=
  wpAnyH_take (by simpa using hi) hs hf hr hQ hy hS h
theorem cons_at {L : List Oper} {fuel : Nat} {listed : Array Bool} {a : Act} {w : World} {i : Nat} {o : Oper} {rs : List Nat} (ho : L[i]? = some o)
    (h : ∀ K' : Act → World → Prop, Shut (∀ a w, S w → (S w → wpAnyH P .any L.toArray Q S fuel (listed.setIfInBounds i true) a w) → K' a w) → if Region.wanted o (yielded L.toArray a.tmps) = true then Oper.wp P o a w K' Q else K' (a.put o.dst undef) w)
    (hs : AllReadyH P .any L.toArray Q S fuel listed a w rs) : AllReadyH P .any L.toArray Q S fuel listed a w (i :: rs) :=
  AllReadyH.cons (by simpa using ho) h hs
end

set_option maxHeartbeats 4000000 in
theorem reg10 {l n : Nat} {Q : Exit → Act → World → Prop} (ops : Array Oper) (hops : regAt 10 ((Tryz.f74).body.getD .skip) = some ops)
    (x0 x3 x5 x6 x7 x8 x9 x10 x11 x12 x13 x14 x15 x16 x17 x18 x19 x20 x21 x22 x23 x24 x25 x26 x27 x28 x29 x30 x31 x32 x33 x34 x35 x36 x37 x38 x39 x40 x41 x42 x43 x44 x45 x46 x47 x48 x49 x50 x51 x52 x53 x54 x55 x56 x57 x58 x59 x60 x61 x62 x63 x64 x65 x66 x67 x68 x69 x70 x71 x72 x73 x74 x75 x76 x77 x78 x79 x80 x81 x82 x83 x84 x85 x86 x87 x88 x89 x90 x91 x92 x93 x94 : Value) (p1 p2 b gn i u N m B : Nat) (v : Value) (xs : List Value) (w : World)
    (c1 : w.cell? ⟨p1, 0, none⟩ = some (.pointer (some ⟨b, 0, none⟩))) (c2 : w.cell? ⟨p2, 0, none⟩ = some (.int .i64 (i : Int)))
    (c6 : w.cell? ⟨b, 6, none⟩ = some (.slice (some ⟨gn, 0, none⟩) N N)) (hi : i < N)
    (cv : w.cell? ⟨gn, i, none⟩ = some v) (fv : w.frozen? ⟨gn, i, none⟩ = false)
    (hown : w.ownsRow B 3 1 v m xs) (hB : B ≤ w.heap.size) (hm : m ≤ 100000) (hn1 : some p1 ≠ v.ownBlock) (hn2 : some p2 ≠ v.ownBlock) (hnb : some b ≠ v.ownBlock) (hng : some gn ≠ v.ownBlock)
    (hd1 : gn ≠ p1) (hd2 : gn ≠ p2) (hdb : gn ≠ b)
    (hQ : ∀ (y55 y56 y57 y58 y59 y60 y61 y62 y63 y64 y65 y66 y67 y68 y69 y70 : Value) (g2 cap2 : Nat) (w2 : World), w.grownBy w2 v.ownBlock → w2.ownsRow B 3 1 (.slice (some ⟨g2, 0, none⟩) (m + 1) cap2) (m + 1) (xs ++ [.int .i64 (u : Int)]) → (v.ownBlock = some g2 ∨ w.heap.size ≤ g2) → g2 < w2.heap.size →
      Q .normal { tmps := #[x0, .pointer (some ⟨p1, 0, none⟩), .pointer (some ⟨p2, 0, none⟩), x3, .int .i64 (u : Int), x5, x6, x7, x8, x9, x10, x11, x12, x13, x14, x15, x16, x17, x18, x19, x20, x21, x22, x23, x24, x25, x26, x27, x28, x29, x30, x31, x32, x33, x34, x35, x36, x37, x38, x39, x40, x41, x42, x43, x44, x45, x46, x47, x48, x49, x50, x51, x52, x53, x54, y55, y56, y57, y58, y59, y60, y61, y62, y63, y64, y65, y66, y67, y68, y69, y70, x71, x72, x73, x74, x75, x76, x77, x78, x79, x80, x81, x82, x83, x84, x85, x86, x87, x88, x89, x90, x91, x92, x93, x94], defers := [] } (w2.setCell ⟨gn, i, none⟩ (.slice (some ⟨g2, 0, none⟩) (m + 1) cap2))) :
    (Code.region 10 ops true).wpIn (Fence.wide.inRound l) n Tryz.prog Q { tmps := #[x0, .pointer (some ⟨p1, 0, none⟩), .pointer (some ⟨p2, 0, none⟩), x3, .int .i64 (u : Int), x5, x6, x7, x8, x9, x10, x11, x12, x13, x14, x15, x16, x17, x18, x19, x20, x21, x22, x23, x24, x25, x26, x27, x28, x29, x30, x31, x32, x33, x34, x35, x36, x37, x38, x39, x40, x41, x42, x43, x44, x45, x46, x47, x48, x49, x50, x51, x52, x53, x54, x55, x56, x57, x58, x59, x60, x61, x62, x63, x64, x65, x66, x67, x68, x69, x70, x71, x72, x73, x74, x75, x76, x77, x78, x79, x80, x81, x82, x83, x84, x85, x86, x87, x88, x89, x90, x91, x92, x93, x94], defers := [] } w := by
  simp only [Tryz.f74, Option.getD_some, regAt, Nat.reduceEqDiff, if_false, if_true, Option.orElse_none, Option.orElse_some, Option.some.injEq, reduceCtorEq] at hops
  subst hops
  obtain ⟨i0, hi0', hz0, hz1, hz2⟩ := info_parts Tryz.infoInt
  have hiN : (i : Int) < (N : Int) := by omega
  have hi0 : (0 : Int) ≤ (i : Int) := by omega
  refine wpIn_region_held (S := fun w' => w'.cell? ⟨p1, 0, none⟩ = some (.pointer (some ⟨b, 0, none⟩)) ∧ w'.cell? ⟨p2, 0, none⟩ = some (.int .i64 (i : Int)) ∧ w'.cell? ⟨b, 6, none⟩ = some (.slice (some ⟨gn, 0, none⟩) N N)) (by kernel_rfl) (by kernel_rfl) ⟨c1, c2, c6⟩ (fun hHeld => ?_)
  simp only [List.size_toArray, List.length_cons, List.length_nil, Nat.reduceAdd, Array.replicate_succ, Array.replicate_zero, List.push_toArray, List.nil_append, List.cons_append, List.append_toArray]
  refine take_at (i := 0) (v := ?_) rfl (by kernel_rfl) (by kernel_rfl) (by kernel_rfl) (fun _ _ _ h => h) (Or.inl ⟨by rfl, ?_⟩) (by assumption) ?_
  rotate_left
  · (intro w' hSw; (try dsimp only at hSw); go_simp; (try with_reducible rfl))
  simp only [Act.put, List.setIfInBounds_toArray, List.set_cons_zero, List.set_cons_succ]
  refine take_at (i := 1) (v := ?_) rfl (by kernel_rfl) (by kernel_rfl) (by kernel_rfl) (fun _ _ _ h => h) (Or.inl ⟨by rfl, ?_⟩) (by assumption) ?_
  rotate_left
  · (intro w' hSw; (try dsimp only at hSw); go_simp; (try with_reducible rfl))
  simp only [Act.put, List.setIfInBounds_toArray, List.set_cons_zero, List.set_cons_succ]
  refine take_at (i := 2) (v := ?_) rfl (by kernel_rfl) (by kernel_rfl) (by kernel_rfl) (fun _ _ _ h => h) (Or.inl ⟨by rfl, ?_⟩) (by assumption) ?_
  rotate_left
  · (intro w' hSw; (try dsimp only at hSw); go_simp; (try with_reducible rfl))
  simp only [Act.put, List.setIfInBounds_toArray, List.set_cons_zero, List.set_cons_succ]
  refine take_at (i := 3) (v := ?_) rfl (by kernel_rfl) (by kernel_rfl) (by kernel_rfl) (fun _ _ _ h => h) (Or.inl ⟨by rfl, ?_⟩) (by assumption) ?_
  rotate_left
  · (intro w' hSw; (try dsimp only at hSw); go_simp; (try with_reducible rfl))
  simp only [Act.put, List.setIfInBounds_toArray, List.set_cons_zero, List.set_cons_succ]
  refine take_at (i := 4) (v := ?_) rfl (by kernel_rfl) (by kernel_rfl) (by kernel_rfl) (fun _ _ _ h => h) (Or.inl ⟨by rfl, ?_⟩) (by assumption) ?_
  rotate_left
  · (intro w' hSw; (try dsimp only at hSw); go_simp; (try with_reducible rfl))
  simp only [Act.put, List.setIfInBounds_toArray, List.set_cons_zero, List.set_cons_succ]
  refine take_at (i := 5) (v := ?_) rfl (by kernel_rfl) (by kernel_rfl) (by kernel_rfl) (fun _ _ _ h => h) (Or.inl ⟨by rfl, ?_⟩) (by assumption) ?_
  rotate_left
  · (intro w' hSw; (try dsimp only at hSw); go_simp; (try with_reducible rfl))
  simp only [Act.put, List.setIfInBounds_toArray, List.set_cons_zero, List.set_cons_succ]
  refine take_at (i := 6) (v := ?_) rfl (by kernel_rfl) (by kernel_rfl) (by kernel_rfl) (fun _ _ _ h => h) (Or.inl ⟨by rfl, ?_⟩) (by assumption) ?_
  rotate_left
  · (intro w' hSw; (try dsimp only at hSw); go_simp; (try with_reducible rfl))
  simp only [Act.put, List.setIfInBounds_toArray, List.set_cons_zero, List.set_cons_succ]
  refine take_at (i := 7) (v := ?_) rfl (by kernel_rfl) (by kernel_rfl) (by kernel_rfl) (fun _ _ _ h => h) (Or.inl ⟨by rfl, ?_⟩) (by assumption) ?_
  rotate_left
  · (intro w' hSw; (try dsimp only at hSw); go_simp; (try with_reducible rfl))
  simp only [Act.put, List.setIfInBounds_toArray, List.set_cons_zero, List.set_cons_succ]
  refine take_at (i := 8) (v := ?_) rfl (by kernel_rfl) (by kernel_rfl) (by kernel_rfl) (fun _ _ _ h => h) (Or.inl ⟨by rfl, ?_⟩) (by assumption) ?_
  rotate_left
  · (intro w' hSw; (try dsimp only at hSw); go_simp; (try with_reducible rfl))
  simp only [Act.put, List.setIfInBounds_toArray, List.set_cons_zero, List.set_cons_succ]
  refine take_at (i := 9) (v := ?_) rfl (by kernel_rfl) (by kernel_rfl) (by kernel_rfl) (fun _ _ _ h => h) (Or.inl ⟨by rfl, ?_⟩) (by assumption) ?_
  rotate_left
  · (intro w' hSw; (try dsimp only at hSw); go_simp; (try with_reducible rfl))
  simp only [Act.put, List.setIfInBounds_toArray, List.set_cons_zero, List.set_cons_succ]
  refine take_at (i := 10) (v := ?_) rfl (by kernel_rfl) (by kernel_rfl) (by kernel_rfl) (fun _ _ _ h => h) (Or.inl ⟨by rfl, ?_⟩) (by assumption) ?_
  rotate_left
  · (intro w' hSw; (try dsimp only at hSw); go_simp; (try with_reducible rfl))
  simp only [Act.put, List.setIfInBounds_toArray, List.set_cons_zero, List.set_cons_succ]
  refine take_at (i := 12) (v := ?_) rfl (by kernel_rfl) (by kernel_rfl) (by kernel_rfl) (fun _ _ _ h => h) (Or.inl ⟨by rfl, ?_⟩) (by assumption) ?_
  rotate_left
  · (intro w' hSw; (try dsimp only at hSw); go_simp; (try with_reducible rfl))
  simp only [Act.put, List.setIfInBounds_toArray, List.set_cons_zero, List.set_cons_succ]
  have hu1 : ∀ (A : World), A.heap[w.heap.size]? = some (.cells #[.int .i64 (u : Int)] 3) → ∀ (t : Nat) (x : Value), ([.int .i64 (u : Int)] : List Value)[t]? = some x → A.cell? ((⟨w.heap.size, 0, none⟩ : Addr).add t) = some x := by
    intro A hA t x ht
    match t, ht with
    | 0, ht => simp at ht; subst ht; simp [Addr.add, World.cell?, hA]
  have hw3 : ∀ w2, (w.alloc (.cells #[.int .i64 (u : Int)] 3)).drew.grownBy w2 v.ownBlock → w.grownBy w2 v.ownBlock := fun w2 hg =>
    ⟨hg.os, hg.tape, hg.output, Nat.le_trans (World.grownBy_alloc w (.cells #[.int .i64 (u : Int)] 3) none).size hg.size, fun k hk hne => (hg.block k (Nat.lt_of_lt_of_le hk (World.grownBy_alloc w (.cells #[.int .i64 (u : Int)] 3) none).size) hne).trans ((World.grownBy_alloc w (.cells #[.int .i64 (u : Int)] 3) none).block k hk (by simp))⟩
  have hnew : (w.alloc (.cells #[.int .i64 (u : Int)] 3)).drew.heap[w.heap.size]? = some (.cells #[.int .i64 (u : Int)] 3) := World.alloc_heap_new w _
  have hsA : w.heap.size ≤ (w.alloc (.cells #[.int .i64 (u : Int)] 3)).drew.heap.size := (World.grownBy_alloc w (.cells #[.int .i64 (u : Int)] 3) none).size
  have d1 : (w.alloc (.cells #[.int .i64 (u : Int)] 3)).cell? ⟨p1, 0, none⟩ = some (.pointer (some ⟨b, 0, none⟩)) := (World.cell?_alloc_some w _ _ (by rw [c1]; rfl)).trans c1
  have d2 : (w.alloc (.cells #[.int .i64 (u : Int)] 3)).cell? ⟨p2, 0, none⟩ = some (.int .i64 (i : Int)) := (World.cell?_alloc_some w _ _ (by rw [c2]; rfl)).trans c2
  have d6 : (w.alloc (.cells #[.int .i64 (u : Int)] 3)).cell? ⟨b, 6, none⟩ = some (.slice (some ⟨gn, 0, none⟩) N N) := (World.cell?_alloc_some w _ _ (by rw [c6]; rfl)).trans c6
  have dv : (w.alloc (.cells #[.int .i64 (u : Int)] 3)).cell? ⟨gn, i, none⟩ = some v := (World.cell?_alloc_some w _ _ (by rw [cv]; rfl)).trans cv
  have hownA : (w.alloc (.cells #[.int .i64 (u : Int)] 3)).drew.ownsRow B 3 1 v m xs := (hown.alloc _)
  refine wpAnyH_ready (rs := [11, 13]) (by kernel_rfl) (by simp) ?_
  refine cons_at rfl (fun K hK => ?_) (cons_at rfl (fun K hK => ?_) AllReadyH.nil)
  · go_simp
    refine hK.out _ _ ⟨c1, c2, c6⟩ (fun hHeld2 => ?_)
    clear hK K hHeld
    (try simp only [Act.put, List.setIfInBounds_toArray, List.set_cons_zero, List.set_cons_succ])
    refine wpAnyH_ready (rs := [13]) (by kernel_rfl) (by simp) ?_
    refine cons_at rfl (fun K hK => ?_) AllReadyH.nil
    go_simp
    refine hK.out _ _ ⟨d1, d2, d6⟩ (fun hHeld => ?_)
    clear hK K hHeld2
    (try simp only [Act.put, List.setIfInBounds_toArray, List.set_cons_zero, List.set_cons_succ])
    refine wpAnyH_ready (rs := [14]) (by kernel_rfl) (by simp) ?_
    refine cons_at rfl (fun K hK => ?_) AllReadyH.nil
    refine step_append_lies _ rfl (.tmp 66) (.tmp 68) 36 rfl B 3 i0 (.int .i64 0) 1 8 Tryz.underlying36 hi0' hz0 hz1 hz2 rfl (by decide) v m xs (by simp [Act.eval]) hownA ⟨w.heap.size, 0, none⟩ 1 1 [.int .i64 (u : Int)] (by simp [Act.eval]) rfl (hu1 _ hnew) (by intro u hu; simp at hu; subst hu; rfl) (by decide) (by unfold maxLen; omega) (by omega) (Nat.le_trans hB hsA) _ rfl ?_
    intro g2 cap2 w2 ho2 hg2 hat hlt2
    have hat2 : v.ownBlock = some g2 ∨ w.heap.size ≤ g2 := by rcases hat with h | h; exact .inl h; exact .inr (by rw [h]; exact hsA)
    have hg3 := hw3 w2 hg2
    have e1 := hg3.cell c1 hn1
    have e2 := hg3.cell c2 hn2
    have e6 := hg3.cell c6 hnb
    have ev := hg3.cell cv hng
    have ef := (World.frozen?_of_block (a := ⟨gn, i, none⟩) (hg3.block gn (World.block_lt_of_cell? w _ cv) hng)).trans fv
    refine hK.out _ _ ⟨e1, e2, e6⟩ (fun hHeld2 => ?_)
    clear hK K hHeld
    (try simp only [Act.put, List.setIfInBounds_toArray, List.set_cons_zero, List.set_cons_succ])
    refine take_at (i := 15) (v := ?_) rfl (by kernel_rfl) (by kernel_rfl) (by kernel_rfl) (fun _ _ _ h => h) (Or.inl ⟨by rfl, ?_⟩) (by assumption) ?_
    rotate_left
    · (intro w' hSw; (try dsimp only at hSw); go_simp; (try with_reducible rfl))
    simp only [Act.put, List.setIfInBounds_toArray, List.set_cons_zero, List.set_cons_succ]
    refine wpAnyH_ready (rs := [16]) (by kernel_rfl) (by simp) ?_
    refine cons_at rfl (fun K hK => ?_) AllReadyH.nil
    go_simp
    refine hK.out _ _ ⟨(World.cell?_setCell_far _ _ _ _ hd1).trans e1, (World.cell?_setCell_far _ _ _ _ hd2).trans e2, (World.cell?_setCell_far _ _ _ _ hdb).trans e6⟩ (fun hHeld => ?_)
    clear hK K hHeld2
    (try simp only [Act.put, List.setIfInBounds_toArray, List.set_cons_zero, List.set_cons_succ])
    refine wpAnyH_done (by kernel_rfl) ?_ _
    exact hQ _ _ _ _ _ _ _ _ _ _ _ _ _ _ _ _ g2 cap2 w2 hg3 ho2 hat2 hlt2
  · go_simp
    refine hK.out _ _ ⟨d1, d2, d6⟩ (fun hHeld2 => ?_)
    clear hK K hHeld
    (try simp only [Act.put, List.setIfInBounds_toArray, List.set_cons_zero, List.set_cons_succ])
    refine wpAnyH_ready (rs := [11]) (by kernel_rfl) (by simp) ?_
    refine cons_at rfl (fun K hK => ?_) AllReadyH.nil
    go_simp
    refine hK.out _ _ ⟨d1, d2, d6⟩ (fun hHeld => ?_)
    clear hK K hHeld2
    (try simp only [Act.put, List.setIfInBounds_toArray, List.set_cons_zero, List.set_cons_succ])
    refine wpAnyH_ready (rs := [14]) (by kernel_rfl) (by simp) ?_
    refine cons_at rfl (fun K hK => ?_) AllReadyH.nil
    refine step_append_lies _ rfl (.tmp 66) (.tmp 68) 36 rfl B 3 i0 (.int .i64 0) 1 8 Tryz.underlying36 hi0' hz0 hz1 hz2 rfl (by decide) v m xs (by simp [Act.eval]) hownA ⟨w.heap.size, 0, none⟩ 1 1 [.int .i64 (u : Int)] (by simp [Act.eval]) rfl (hu1 _ hnew) (by intro u hu; simp at hu; subst hu; rfl) (by decide) (by unfold maxLen; omega) (by omega) (Nat.le_trans hB hsA) _ rfl ?_
    intro g2 cap2 w2 ho2 hg2 hat hlt2
    have hat2 : v.ownBlock = some g2 ∨ w.heap.size ≤ g2 := by rcases hat with h | h; exact .inl h; exact .inr (by rw [h]; exact hsA)
    have hg3 := hw3 w2 hg2
    have e1 := hg3.cell c1 hn1
    have e2 := hg3.cell c2 hn2
    have e6 := hg3.cell c6 hnb
    have ev := hg3.cell cv hng
    have ef := (World.frozen?_of_block (a := ⟨gn, i, none⟩) (hg3.block gn (World.block_lt_of_cell? w _ cv) hng)).trans fv
    refine hK.out _ _ ⟨e1, e2, e6⟩ (fun hHeld2 => ?_)
    clear hK K hHeld
    (try simp only [Act.put, List.setIfInBounds_toArray, List.set_cons_zero, List.set_cons_succ])
    refine take_at (i := 15) (v := ?_) rfl (by kernel_rfl) (by kernel_rfl) (by kernel_rfl) (fun _ _ _ h => h) (Or.inl ⟨by rfl, ?_⟩) (by assumption) ?_
    rotate_left
    · (intro w' hSw; (try dsimp only at hSw); go_simp; (try with_reducible rfl))
    simp only [Act.put, List.setIfInBounds_toArray, List.set_cons_zero, List.set_cons_succ]
    refine wpAnyH_ready (rs := [16]) (by kernel_rfl) (by simp) ?_
    refine cons_at rfl (fun K hK => ?_) AllReadyH.nil
    go_simp
    refine hK.out _ _ ⟨(World.cell?_setCell_far _ _ _ _ hd1).trans e1, (World.cell?_setCell_far _ _ _ _ hd2).trans e2, (World.cell?_setCell_far _ _ _ _ hdb).trans e6⟩ (fun hHeld => ?_)
    clear hK K hHeld2
    (try simp only [Act.put, List.setIfInBounds_toArray, List.set_cons_zero, List.set_cons_succ])
    refine wpAnyH_done (by kernel_rfl) ?_ _
    exact hQ _ _ _ _ _ _ _ _ _ _ _ _ _ _ _ _ g2 cap2 w2 hg3 ho2 hat2 hlt2

set_option maxHeartbeats 4000000 in
theorem reg11 {l n : Nat} {Q : Exit → Act → World → Prop} (ops : Array Oper) (hops : regAt 11 ((Tryz.f74).body.getD .skip) = some ops)
    (x0 x3 x5 x6 x7 x8 x9 x10 x11 x12 x13 x14 x15 x16 x17 x18 x19 x20 x21 x22 x23 x24 x25 x26 x27 x28 x29 x30 x31 x32 x33 x34 x35 x36 x37 x38 x39 x40 x41 x42 x43 x44 x45 x46 x47 x48 x49 x50 x51 x52 x53 x54 x55 x56 x57 x58 x59 x60 x61 x62 x63 x64 x65 x66 x67 x68 x69 x70 x71 x72 x73 x74 x75 x76 x77 x78 x79 x80 x81 x82 x83 x84 x85 x86 x87 x88 x89 x90 x91 x92 x93 x94 : Value) (p1 p2 b gn i u N m B : Nat) (v : Value) (xs : List Value) (w : World)
    (c1 : w.cell? ⟨p1, 0, none⟩ = some (.pointer (some ⟨b, 0, none⟩))) (c2 : w.cell? ⟨p2, 0, none⟩ = some (.int .i64 (u : Int)))
    (c6 : w.cell? ⟨b, 7, none⟩ = some (.slice (some ⟨gn, 0, none⟩) N N)) (hi : i < N)
    (cv : w.cell? ⟨gn, i, none⟩ = some v) (fv : w.frozen? ⟨gn, i, none⟩ = false)
    (hown : w.ownsRow B 3 1 v m xs) (hB : B ≤ w.heap.size) (hm : m ≤ 100000) (hn1 : some p1 ≠ v.ownBlock) (hn2 : some p2 ≠ v.ownBlock) (hnb : some b ≠ v.ownBlock) (hng : some gn ≠ v.ownBlock)
    (hd1 : gn ≠ p1) (hd2 : gn ≠ p2) (hdb : gn ≠ b)
    (hQ : ∀ (y71 y72 y73 y74 y75 y76 y77 y78 y79 y80 y81 y82 y83 y84 y85 y86 : Value) (g2 cap2 : Nat) (w2 : World), w.grownBy w2 v.ownBlock → w2.ownsRow B 3 1 (.slice (some ⟨g2, 0, none⟩) (m + 1) cap2) (m + 1) (xs ++ [.int .i64 (u : Int)]) → (v.ownBlock = some g2 ∨ w.heap.size ≤ g2) → g2 < w2.heap.size →
      Q .normal { tmps := #[x0, .pointer (some ⟨p1, 0, none⟩), .pointer (some ⟨p2, 0, none⟩), x3, .int .i64 (i : Int), x5, x6, x7, x8, x9, x10, x11, x12, x13, x14, x15, x16, x17, x18, x19, x20, x21, x22, x23, x24, x25, x26, x27, x28, x29, x30, x31, x32, x33, x34, x35, x36, x37, x38, x39, x40, x41, x42, x43, x44, x45, x46, x47, x48, x49, x50, x51, x52, x53, x54, x55, x56, x57, x58, x59, x60, x61, x62, x63, x64, x65, x66, x67, x68, x69, x70, y71, y72, y73, y74, y75, y76, y77, y78, y79, y80, y81, y82, y83, y84, y85, y86, x87, x88, x89, x90, x91, x92, x93, x94], defers := [] } (w2.setCell ⟨gn, i, none⟩ (.slice (some ⟨g2, 0, none⟩) (m + 1) cap2))) :
    (Code.region 11 ops true).wpIn (Fence.wide.inRound l) n Tryz.prog Q { tmps := #[x0, .pointer (some ⟨p1, 0, none⟩), .pointer (some ⟨p2, 0, none⟩), x3, .int .i64 (i : Int), x5, x6, x7, x8, x9, x10, x11, x12, x13, x14, x15, x16, x17, x18, x19, x20, x21, x22, x23, x24, x25, x26, x27, x28, x29, x30, x31, x32, x33, x34, x35, x36, x37, x38, x39, x40, x41, x42, x43, x44, x45, x46, x47, x48, x49, x50, x51, x52, x53, x54, x55, x56, x57, x58, x59, x60, x61, x62, x63, x64, x65, x66, x67, x68, x69, x70, x71, x72, x73, x74, x75, x76, x77, x78, x79, x80, x81, x82, x83, x84, x85, x86, x87, x88, x89, x90, x91, x92, x93, x94], defers := [] } w := by
  simp only [Tryz.f74, Option.getD_some, regAt, Nat.reduceEqDiff, if_false, if_true, Option.orElse_none, Option.orElse_some, Option.some.injEq, reduceCtorEq] at hops
  subst hops
  obtain ⟨i0, hi0', hz0, hz1, hz2⟩ := info_parts Tryz.infoInt
  have hiN : (i : Int) < (N : Int) := by omega
  have hi0 : (0 : Int) ≤ (i : Int) := by omega
  refine wpIn_region_held (S := fun w' => w'.cell? ⟨p1, 0, none⟩ = some (.pointer (some ⟨b, 0, none⟩)) ∧ w'.cell? ⟨p2, 0, none⟩ = some (.int .i64 (u : Int)) ∧ w'.cell? ⟨b, 7, none⟩ = some (.slice (some ⟨gn, 0, none⟩) N N)) (by kernel_rfl) (by kernel_rfl) ⟨c1, c2, c6⟩ (fun hHeld => ?_)
  simp only [List.size_toArray, List.length_cons, List.length_nil, Nat.reduceAdd, Array.replicate_succ, Array.replicate_zero, List.push_toArray, List.nil_append, List.cons_append, List.append_toArray]
  refine take_at (i := 0) (v := ?_) rfl (by kernel_rfl) (by kernel_rfl) (by kernel_rfl) (fun _ _ _ h => h) (Or.inl ⟨by rfl, ?_⟩) (by assumption) ?_
  rotate_left
  · (intro w' hSw; (try dsimp only at hSw); go_simp; (try with_reducible rfl))
  simp only [Act.put, List.setIfInBounds_toArray, List.set_cons_zero, List.set_cons_succ]
  refine take_at (i := 1) (v := ?_) rfl (by kernel_rfl) (by kernel_rfl) (by kernel_rfl) (fun _ _ _ h => h) (Or.inl ⟨by rfl, ?_⟩) (by assumption) ?_
  rotate_left
  · (intro w' hSw; (try dsimp only at hSw); go_simp; (try with_reducible rfl))
  simp only [Act.put, List.setIfInBounds_toArray, List.set_cons_zero, List.set_cons_succ]
  refine take_at (i := 2) (v := ?_) rfl (by kernel_rfl) (by kernel_rfl) (by kernel_rfl) (fun _ _ _ h => h) (Or.inl ⟨by rfl, ?_⟩) (by assumption) ?_
  rotate_left
  · (intro w' hSw; (try dsimp only at hSw); go_simp; (try with_reducible rfl))
  simp only [Act.put, List.setIfInBounds_toArray, List.set_cons_zero, List.set_cons_succ]
  refine take_at (i := 3) (v := ?_) rfl (by kernel_rfl) (by kernel_rfl) (by kernel_rfl) (fun _ _ _ h => h) (Or.inl ⟨by rfl, ?_⟩) (by assumption) ?_
  rotate_left
  · (intro w' hSw; (try dsimp only at hSw); go_simp; (try with_reducible rfl))
  simp only [Act.put, List.setIfInBounds_toArray, List.set_cons_zero, List.set_cons_succ]
  refine take_at (i := 4) (v := ?_) rfl (by kernel_rfl) (by kernel_rfl) (by kernel_rfl) (fun _ _ _ h => h) (Or.inl ⟨by rfl, ?_⟩) (by assumption) ?_
  rotate_left
  · (intro w' hSw; (try dsimp only at hSw); go_simp; (try with_reducible rfl))
  simp only [Act.put, List.setIfInBounds_toArray, List.set_cons_zero, List.set_cons_succ]
  refine take_at (i := 5) (v := ?_) rfl (by kernel_rfl) (by kernel_rfl) (by kernel_rfl) (fun _ _ _ h => h) (Or.inl ⟨by rfl, ?_⟩) (by assumption) ?_
  rotate_left
  · (intro w' hSw; (try dsimp only at hSw); go_simp; (try with_reducible rfl))
  simp only [Act.put, List.setIfInBounds_toArray, List.set_cons_zero, List.set_cons_succ]
  refine take_at (i := 6) (v := ?_) rfl (by kernel_rfl) (by kernel_rfl) (by kernel_rfl) (fun _ _ _ h => h) (Or.inl ⟨by rfl, ?_⟩) (by assumption) ?_
  rotate_left
  · (intro w' hSw; (try dsimp only at hSw); go_simp; (try with_reducible rfl))
  simp only [Act.put, List.setIfInBounds_toArray, List.set_cons_zero, List.set_cons_succ]
  refine take_at (i := 7) (v := ?_) rfl (by kernel_rfl) (by kernel_rfl) (by kernel_rfl) (fun _ _ _ h => h) (Or.inl ⟨by rfl, ?_⟩) (by assumption) ?_
  rotate_left
  · (intro w' hSw; (try dsimp only at hSw); go_simp; (try with_reducible rfl))
  simp only [Act.put, List.setIfInBounds_toArray, List.set_cons_zero, List.set_cons_succ]
  refine take_at (i := 8) (v := ?_) rfl (by kernel_rfl) (by kernel_rfl) (by kernel_rfl) (fun _ _ _ h => h) (Or.inl ⟨by rfl, ?_⟩) (by assumption) ?_
  rotate_left
  · (intro w' hSw; (try dsimp only at hSw); go_simp; (try with_reducible rfl))
  simp only [Act.put, List.setIfInBounds_toArray, List.set_cons_zero, List.set_cons_succ]
  refine take_at (i := 9) (v := ?_) rfl (by kernel_rfl) (by kernel_rfl) (by kernel_rfl) (fun _ _ _ h => h) (Or.inl ⟨by rfl, ?_⟩) (by assumption) ?_
  rotate_left
  · (intro w' hSw; (try dsimp only at hSw); go_simp; (try with_reducible rfl))
  simp only [Act.put, List.setIfInBounds_toArray, List.set_cons_zero, List.set_cons_succ]
  refine take_at (i := 10) (v := ?_) rfl (by kernel_rfl) (by kernel_rfl) (by kernel_rfl) (fun _ _ _ h => h) (Or.inl ⟨by rfl, ?_⟩) (by assumption) ?_
  rotate_left
  · (intro w' hSw; (try dsimp only at hSw); go_simp; (try with_reducible rfl))
  simp only [Act.put, List.setIfInBounds_toArray, List.set_cons_zero, List.set_cons_succ]
  refine take_at (i := 12) (v := ?_) rfl (by kernel_rfl) (by kernel_rfl) (by kernel_rfl) (fun _ _ _ h => h) (Or.inl ⟨by rfl, ?_⟩) (by assumption) ?_
  rotate_left
  · (intro w' hSw; (try dsimp only at hSw); go_simp; (try with_reducible rfl))
  simp only [Act.put, List.setIfInBounds_toArray, List.set_cons_zero, List.set_cons_succ]
  have hu1 : ∀ (A : World), A.heap[w.heap.size]? = some (.cells #[.int .i64 (u : Int)] 3) → ∀ (t : Nat) (x : Value), ([.int .i64 (u : Int)] : List Value)[t]? = some x → A.cell? ((⟨w.heap.size, 0, none⟩ : Addr).add t) = some x := by
    intro A hA t x ht
    match t, ht with
    | 0, ht => simp at ht; subst ht; simp [Addr.add, World.cell?, hA]
  have hw3 : ∀ w2, (w.alloc (.cells #[.int .i64 (u : Int)] 3)).drew.grownBy w2 v.ownBlock → w.grownBy w2 v.ownBlock := fun w2 hg =>
    ⟨hg.os, hg.tape, hg.output, Nat.le_trans (World.grownBy_alloc w (.cells #[.int .i64 (u : Int)] 3) none).size hg.size, fun k hk hne => (hg.block k (Nat.lt_of_lt_of_le hk (World.grownBy_alloc w (.cells #[.int .i64 (u : Int)] 3) none).size) hne).trans ((World.grownBy_alloc w (.cells #[.int .i64 (u : Int)] 3) none).block k hk (by simp))⟩
  have hnew : (w.alloc (.cells #[.int .i64 (u : Int)] 3)).drew.heap[w.heap.size]? = some (.cells #[.int .i64 (u : Int)] 3) := World.alloc_heap_new w _
  have hsA : w.heap.size ≤ (w.alloc (.cells #[.int .i64 (u : Int)] 3)).drew.heap.size := (World.grownBy_alloc w (.cells #[.int .i64 (u : Int)] 3) none).size
  have d1 : (w.alloc (.cells #[.int .i64 (u : Int)] 3)).cell? ⟨p1, 0, none⟩ = some (.pointer (some ⟨b, 0, none⟩)) := (World.cell?_alloc_some w _ _ (by rw [c1]; rfl)).trans c1
  have d2 : (w.alloc (.cells #[.int .i64 (u : Int)] 3)).cell? ⟨p2, 0, none⟩ = some (.int .i64 (u : Int)) := (World.cell?_alloc_some w _ _ (by rw [c2]; rfl)).trans c2
  have d6 : (w.alloc (.cells #[.int .i64 (u : Int)] 3)).cell? ⟨b, 7, none⟩ = some (.slice (some ⟨gn, 0, none⟩) N N) := (World.cell?_alloc_some w _ _ (by rw [c6]; rfl)).trans c6
  have dv : (w.alloc (.cells #[.int .i64 (u : Int)] 3)).cell? ⟨gn, i, none⟩ = some v := (World.cell?_alloc_some w _ _ (by rw [cv]; rfl)).trans cv
  have hownA : (w.alloc (.cells #[.int .i64 (u : Int)] 3)).drew.ownsRow B 3 1 v m xs := (hown.alloc _)
  refine wpAnyH_ready (rs := [11, 13]) (by kernel_rfl) (by simp) ?_
  refine cons_at rfl (fun K hK => ?_) (cons_at rfl (fun K hK => ?_) AllReadyH.nil)
  · go_simp
    refine hK.out _ _ ⟨c1, c2, c6⟩ (fun hHeld2 => ?_)
    clear hK K hHeld
    (try simp only [Act.put, List.setIfInBounds_toArray, List.set_cons_zero, List.set_cons_succ])
    refine wpAnyH_ready (rs := [13]) (by kernel_rfl) (by simp) ?_
    refine cons_at rfl (fun K hK => ?_) AllReadyH.nil
    go_simp
    refine hK.out _ _ ⟨d1, d2, d6⟩ (fun hHeld => ?_)
    clear hK K hHeld2
    (try simp only [Act.put, List.setIfInBounds_toArray, List.set_cons_zero, List.set_cons_succ])
    refine wpAnyH_ready (rs := [14]) (by kernel_rfl) (by simp) ?_
    refine cons_at rfl (fun K hK => ?_) AllReadyH.nil
    refine step_append_lies _ rfl (.tmp 82) (.tmp 84) 36 rfl B 3 i0 (.int .i64 0) 1 8 Tryz.underlying36 hi0' hz0 hz1 hz2 rfl (by decide) v m xs (by simp [Act.eval]) hownA ⟨w.heap.size, 0, none⟩ 1 1 [.int .i64 (u : Int)] (by simp [Act.eval]) rfl (hu1 _ hnew) (by intro u hu; simp at hu; subst hu; rfl) (by decide) (by unfold maxLen; omega) (by omega) (Nat.le_trans hB hsA) _ rfl ?_
    intro g2 cap2 w2 ho2 hg2 hat hlt2
    have hat2 : v.ownBlock = some g2 ∨ w.heap.size ≤ g2 := by rcases hat with h | h; exact .inl h; exact .inr (by rw [h]; exact hsA)
    have hg3 := hw3 w2 hg2
    have e1 := hg3.cell c1 hn1
    have e2 := hg3.cell c2 hn2
    have e6 := hg3.cell c6 hnb
    have ev := hg3.cell cv hng
    have ef := (World.frozen?_of_block (a := ⟨gn, i, none⟩) (hg3.block gn (World.block_lt_of_cell? w _ cv) hng)).trans fv
    refine hK.out _ _ ⟨e1, e2, e6⟩ (fun hHeld2 => ?_)
    clear hK K hHeld
    (try simp only [Act.put, List.setIfInBounds_toArray, List.set_cons_zero, List.set_cons_succ])
    refine take_at (i := 15) (v := ?_) rfl (by kernel_rfl) (by kernel_rfl) (by kernel_rfl) (fun _ _ _ h => h) (Or.inl ⟨by rfl, ?_⟩) (by assumption) ?_
    rotate_left
    · (intro w' hSw; (try dsimp only at hSw); go_simp; (try with_reducible rfl))
    simp only [Act.put, List.setIfInBounds_toArray, List.set_cons_zero, List.set_cons_succ]
    refine wpAnyH_ready (rs := [16]) (by kernel_rfl) (by simp) ?_
    refine cons_at rfl (fun K hK => ?_) AllReadyH.nil
    go_simp
    refine hK.out _ _ ⟨(World.cell?_setCell_far _ _ _ _ hd1).trans e1, (World.cell?_setCell_far _ _ _ _ hd2).trans e2, (World.cell?_setCell_far _ _ _ _ hdb).trans e6⟩ (fun hHeld => ?_)
    clear hK K hHeld2
    (try simp only [Act.put, List.setIfInBounds_toArray, List.set_cons_zero, List.set_cons_succ])
    refine wpAnyH_done (by kernel_rfl) ?_ _
    exact hQ _ _ _ _ _ _ _ _ _ _ _ _ _ _ _ _ g2 cap2 w2 hg3 ho2 hat2 hlt2
  · go_simp
    refine hK.out _ _ ⟨d1, d2, d6⟩ (fun hHeld2 => ?_)
    clear hK K hHeld
    (try simp only [Act.put, List.setIfInBounds_toArray, List.set_cons_zero, List.set_cons_succ])
    refine wpAnyH_ready (rs := [11]) (by kernel_rfl) (by simp) ?_
    refine cons_at rfl (fun K hK => ?_) AllReadyH.nil
    go_simp
    refine hK.out _ _ ⟨d1, d2, d6⟩ (fun hHeld => ?_)
    clear hK K hHeld2
    (try simp only [Act.put, List.setIfInBounds_toArray, List.set_cons_zero, List.set_cons_succ])
    refine wpAnyH_ready (rs := [14]) (by kernel_rfl) (by simp) ?_
    refine cons_at rfl (fun K hK => ?_) AllReadyH.nil
    refine step_append_lies _ rfl (.tmp 82) (.tmp 84) 36 rfl B 3 i0 (.int .i64 0) 1 8 Tryz.underlying36 hi0' hz0 hz1 hz2 rfl (by decide) v m xs (by simp [Act.eval]) hownA ⟨w.heap.size, 0, none⟩ 1 1 [.int .i64 (u : Int)] (by simp [Act.eval]) rfl (hu1 _ hnew) (by intro u hu; simp at hu; subst hu; rfl) (by decide) (by unfold maxLen; omega) (by omega) (Nat.le_trans hB hsA) _ rfl ?_
    intro g2 cap2 w2 ho2 hg2 hat hlt2
    have hat2 : v.ownBlock = some g2 ∨ w.heap.size ≤ g2 := by rcases hat with h | h; exact .inl h; exact .inr (by rw [h]; exact hsA)
    have hg3 := hw3 w2 hg2
    have e1 := hg3.cell c1 hn1
    have e2 := hg3.cell c2 hn2
    have e6 := hg3.cell c6 hnb
    have ev := hg3.cell cv hng
    have ef := (World.frozen?_of_block (a := ⟨gn, i, none⟩) (hg3.block gn (World.block_lt_of_cell? w _ cv) hng)).trans fv
    refine hK.out _ _ ⟨e1, e2, e6⟩ (fun hHeld2 => ?_)
    clear hK K hHeld
    (try simp only [Act.put, List.setIfInBounds_toArray, List.set_cons_zero, List.set_cons_succ])
    refine take_at (i := 15) (v := ?_) rfl (by kernel_rfl) (by kernel_rfl) (by kernel_rfl) (fun _ _ _ h => h) (Or.inl ⟨by rfl, ?_⟩) (by assumption) ?_
    rotate_left
    · (intro w' hSw; (try dsimp only at hSw); go_simp; (try with_reducible rfl))
    simp only [Act.put, List.setIfInBounds_toArray, List.set_cons_zero, List.set_cons_succ]
    refine wpAnyH_ready (rs := [16]) (by kernel_rfl) (by simp) ?_
    refine cons_at rfl (fun K hK => ?_) AllReadyH.nil
    go_simp
    refine hK.out _ _ ⟨(World.cell?_setCell_far _ _ _ _ hd1).trans e1, (World.cell?_setCell_far _ _ _ _ hd2).trans e2, (World.cell?_setCell_far _ _ _ _ hdb).trans e6⟩ (fun hHeld => ?_)
    clear hK K hHeld2
    (try simp only [Act.put, List.setIfInBounds_toArray, List.set_cons_zero, List.set_cons_succ])
    refine wpAnyH_done (by kernel_rfl) ?_ _
    exact hQ _ _ _ _ _ _ _ _ _ _ _ _ _ _ _ _ g2 cap2 w2 hg3 ho2 hat2 hlt2
end Go.Proofs.YtekhlaodlagbdaaGreatDoor

/-
  findEdges: may this way be gone?
-/
namespace Go.Proofs.YtekhlaodlagbdaaGreatDoor
set_option maxRecDepth 100000
set_option linter.unusedSimpArgs false
open Go.RowKit

set_option maxHeartbeats 4000000 in
theorem reg9 {l n : Nat} {Q : Exit → Act → World → Prop} (ops : Array Oper) (hops : regAt 9 ((Tryz.f74).body.getD .skip) = some ops)
    (x0 x2 x6 x7 x8 x9 x10 x11 x12 x13 x14 x15 x16 x17 x18 x19 x20 x21 x22 x23 x24 x25 x26 x27 x28 x29 x30 x31 x32 x33 x34 x35 x36 x37 x38 x39 x40 x41 x42 x43 x44 x45 x46 x47 x48 x49 x50 x51 x52 x53 x54 x55 x56 x57 x58 x59 x60 x61 x62 x63 x64 x65 x66 x67 x68 x69 x70 x71 x72 x73 x74 x75 x76 x77 x78 x79 x80 x81 x82 x83 x84 x85 x86 x87 x88 x89 x90 x91 x92 x93 x94 : Value) (p1 p3 p5 b g cap N u k : Nat) (c d : UInt8) (w : World) (hu : u < N)
    (hall : (fun w' : World => w'.cell? ⟨p1, 0, none⟩ = some (.pointer (some ⟨b, 0, none⟩)) ∧ w'.cell? ⟨p3, 0, none⟩ = some (.int .u8 (c.toNat : Int)) ∧ w'.cell? ⟨b, 2, none⟩ = some (.slice (some ⟨g, 0, none⟩) N cap) ∧ w'.cell? ⟨g, u, none⟩ = some (.int .u8 (d.toNat : Int)) ∧ w'.cell? ⟨p5, 0, none⟩ = some (.int .u8 (mkK k)) ∧ w'.cell? ⟨p5, 1, none⟩ = some (.int .u8 (agK k)) ∧ w'.cell? ⟨p5, 2, none⟩ = some (.int .i64 (dnK k)) ∧ w'.cell? ⟨p5, 3, none⟩ = some (.int .i64 (rtK k))) w)
    (hQ : ∀ (y39 y40 y41 y42 y43 y44 y45 y46 y47 y48 y49 y50 y51 y52 y53 : Value) (w2 : World), w.grownBy w2 none → Q .normal { tmps := #[x0, .pointer (some ⟨p1, 0, none⟩), x2, .pointer (some ⟨p3, 0, none⟩), .int .i64 (u : Int), .pointer (some ⟨p5, 0, none⟩), x6, x7, x8, x9, x10, x11, x12, x13, x14, x15, x16, x17, x18, x19, x20, x21, x22, x23, x24, x25, x26, x27, x28, x29, x30, x31, x32, x33, x34, x35, x36, x37, x38, y39, y40, y41, y42, y43, y44, y45, y46, y47, y48, y49, y50, y51, y52, y53, .bool (!(leavesB k c && entersB k d)), x55, x56, x57, x58, x59, x60, x61, x62, x63, x64, x65, x66, x67, x68, x69, x70, x71, x72, x73, x74, x75, x76, x77, x78, x79, x80, x81, x82, x83, x84, x85, x86, x87, x88, x89, x90, x91, x92, x93, x94], defers := [] } w2) :
    (Code.region 9 ops true).wpIn (Fence.wide.inRound l) n Tryz.prog Q { tmps := #[x0, .pointer (some ⟨p1, 0, none⟩), x2, .pointer (some ⟨p3, 0, none⟩), .int .i64 (u : Int), .pointer (some ⟨p5, 0, none⟩), x6, x7, x8, x9, x10, x11, x12, x13, x14, x15, x16, x17, x18, x19, x20, x21, x22, x23, x24, x25, x26, x27, x28, x29, x30, x31, x32, x33, x34, x35, x36, x37, x38, x39, x40, x41, x42, x43, x44, x45, x46, x47, x48, x49, x50, x51, x52, x53, x54, x55, x56, x57, x58, x59, x60, x61, x62, x63, x64, x65, x66, x67, x68, x69, x70, x71, x72, x73, x74, x75, x76, x77, x78, x79, x80, x81, x82, x83, x84, x85, x86, x87, x88, x89, x90, x91, x92, x93, x94], defers := [] } w := by
  simp only [Tryz.f74, Option.getD_some, regAt, Nat.reduceEqDiff, if_false, if_true, Option.orElse_none, Option.orElse_some, Option.some.injEq, reduceCtorEq] at hops
  subst hops
  have hiN : (u : Int) < (N : Int) := by omega
  have hi0 : (0 : Int) ≤ (u : Int) := by omega
  have hnext : ∀ (W : World) (o : Obj), (fun w' : World => w'.cell? ⟨p1, 0, none⟩ = some (.pointer (some ⟨b, 0, none⟩)) ∧ w'.cell? ⟨p3, 0, none⟩ = some (.int .u8 (c.toNat : Int)) ∧ w'.cell? ⟨b, 2, none⟩ = some (.slice (some ⟨g, 0, none⟩) N cap) ∧ w'.cell? ⟨g, u, none⟩ = some (.int .u8 (d.toNat : Int)) ∧ w'.cell? ⟨p5, 0, none⟩ = some (.int .u8 (mkK k)) ∧ w'.cell? ⟨p5, 1, none⟩ = some (.int .u8 (agK k)) ∧ w'.cell? ⟨p5, 2, none⟩ = some (.int .i64 (dnK k)) ∧ w'.cell? ⟨p5, 3, none⟩ = some (.int .i64 (rtK k))) W → (fun w' : World => w'.cell? ⟨p1, 0, none⟩ = some (.pointer (some ⟨b, 0, none⟩)) ∧ w'.cell? ⟨p3, 0, none⟩ = some (.int .u8 (c.toNat : Int)) ∧ w'.cell? ⟨b, 2, none⟩ = some (.slice (some ⟨g, 0, none⟩) N cap) ∧ w'.cell? ⟨g, u, none⟩ = some (.int .u8 (d.toNat : Int)) ∧ w'.cell? ⟨p5, 0, none⟩ = some (.int .u8 (mkK k)) ∧ w'.cell? ⟨p5, 1, none⟩ = some (.int .u8 (agK k)) ∧ w'.cell? ⟨p5, 2, none⟩ = some (.int .i64 (dnK k)) ∧ w'.cell? ⟨p5, 3, none⟩ = some (.int .i64 (rtK k))) (W.alloc o) := by
    rintro W o ⟨c1, c2, c3, c4, c5, c6, c7, c8⟩
    refine ⟨?_, ?_, ?_, ?_, ?_, ?_, ?_, ?_⟩ <;> (rw [World.cell?_alloc_some _ _ _ (by simp [*])]; assumption)
  refine wpIn_region_held (S := fun w' => w'.cell? ⟨p1, 0, none⟩ = some (.pointer (some ⟨b, 0, none⟩)) ∧ w'.cell? ⟨p3, 0, none⟩ = some (.int .u8 (c.toNat : Int)) ∧ w'.cell? ⟨b, 2, none⟩ = some (.slice (some ⟨g, 0, none⟩) N cap) ∧ w'.cell? ⟨g, u, none⟩ = some (.int .u8 (d.toNat : Int)) ∧ w'.cell? ⟨p5, 0, none⟩ = some (.int .u8 (mkK k)) ∧ w'.cell? ⟨p5, 1, none⟩ = some (.int .u8 (agK k)) ∧ w'.cell? ⟨p5, 2, none⟩ = some (.int .i64 (dnK k)) ∧ w'.cell? ⟨p5, 3, none⟩ = some (.int .i64 (rtK k))) (by kernel_rfl) (by kernel_rfl) hall (fun hHeld => ?_)
  simp only [List.size_toArray, List.length_cons, List.length_nil, Nat.reduceAdd, Array.replicate_succ, Array.replicate_zero, List.push_toArray, List.nil_append, List.cons_append, List.append_toArray]
  refine take_at (i := 0) (v := ?_) rfl (by kernel_rfl) (by kernel_rfl) (by kernel_rfl) (fun _ _ _ h => h) (Or.inl ⟨by rfl, ?_⟩) (by assumption) ?_
  rotate_left
  · (intro w' hSw; (try dsimp only at hSw); go_simp; (try with_reducible rfl))
  simp only [Act.put, List.setIfInBounds_toArray, List.set_cons_zero, List.set_cons_succ]
  refine take_at (i := 1) (v := ?_) rfl (by kernel_rfl) (by kernel_rfl) (by kernel_rfl) (fun _ _ _ h => h) (Or.inl ⟨by rfl, ?_⟩) (by assumption) ?_
  rotate_left
  · (intro w' hSw; (try dsimp only at hSw); go_simp; (try with_reducible rfl))
  simp only [Act.put, List.setIfInBounds_toArray, List.set_cons_zero, List.set_cons_succ]
  refine wpAnyH_ready (rs := [2]) (by kernel_rfl) (by simp) ?_
  refine cons_at rfl (fun K hK => ?_) AllReadyH.nil
  go_simp
  have hgr : ∀ o : Obj, w.grownBy (w.drew.alloc o) none := fun o => ⟨(World.grownBy_alloc w.drew o none).os, (World.grownBy_alloc w.drew o none).tape, (World.grownBy_alloc w.drew o none).output, (World.grownBy_alloc w.drew o none).size, (World.grownBy_alloc w.drew o none).block⟩
  have hlv := leaves_any k c w.drew
  cases hl : leavesB k c
  · rw [hl] at hlv
    refine hlv.mono ?_
    rintro e w1 ⟨rfl, o1, rfl⟩
    refine hK.out _ _ (hnext _ _ hHeld) (fun hHeld1 => ?_)
    clear hK K hHeld hlv
    (try simp only [Act.put, List.setIfInBounds_toArray, List.set_cons_zero, List.set_cons_succ])
    refine take_at (i := 3) (v := ?_) rfl (by kernel_rfl) (by kernel_rfl) (by kernel_rfl) (fun _ _ _ h => h) (Or.inl ⟨by rfl, ?_⟩) (by assumption) ?_
    rotate_left
    · (intro w' hSw; (try dsimp only at hSw); go_simp; (try with_reducible rfl))
    simp only [Act.put, List.setIfInBounds_toArray, List.set_cons_zero, List.set_cons_succ]
    refine take_at (i := 4) (v := ?_) rfl (by kernel_rfl) (by kernel_rfl) (by kernel_rfl) (fun _ _ _ h => h) (Or.inl ⟨by rfl, ?_⟩) (by assumption) ?_
    rotate_left
    · (intro w' hSw; (try dsimp only at hSw); go_simp; (try with_reducible rfl))
    simp only [Act.put, List.setIfInBounds_toArray, List.set_cons_zero, List.set_cons_succ]
    refine take_at (i := 5) (v := undef) rfl (by kernel_rfl) (by kernel_rfl) (by kernel_rfl) (fun _ _ _ h => h) (Or.inr ⟨by rfl, rfl⟩) (by assumption) ?_
    simp only [Act.put, List.setIfInBounds_toArray, List.set_cons_zero, List.set_cons_succ]
    refine take_at (i := 6) (v := undef) rfl (by kernel_rfl) (by kernel_rfl) (by kernel_rfl) (fun _ _ _ h => h) (Or.inr ⟨by rfl, rfl⟩) (by assumption) ?_
    simp only [Act.put, List.setIfInBounds_toArray, List.set_cons_zero, List.set_cons_succ]
    refine take_at (i := 7) (v := undef) rfl (by kernel_rfl) (by kernel_rfl) (by kernel_rfl) (fun _ _ _ h => h) (Or.inr ⟨by rfl, rfl⟩) (by assumption) ?_
    simp only [Act.put, List.setIfInBounds_toArray, List.set_cons_zero, List.set_cons_succ]
    refine take_at (i := 8) (v := undef) rfl (by kernel_rfl) (by kernel_rfl) (by kernel_rfl) (fun _ _ _ h => h) (Or.inr ⟨by rfl, rfl⟩) (by assumption) ?_
    simp only [Act.put, List.setIfInBounds_toArray, List.set_cons_zero, List.set_cons_succ]
    refine take_at (i := 9) (v := undef) rfl (by kernel_rfl) (by kernel_rfl) (by kernel_rfl) (fun _ _ _ h => h) (Or.inr ⟨by rfl, rfl⟩) (by assumption) ?_
    simp only [Act.put, List.setIfInBounds_toArray, List.set_cons_zero, List.set_cons_succ]
    refine take_at (i := 10) (v := undef) rfl (by kernel_rfl) (by kernel_rfl) (by kernel_rfl) (fun _ _ _ h => h) (Or.inr ⟨by rfl, rfl⟩) (by assumption) ?_
    simp only [Act.put, List.setIfInBounds_toArray, List.set_cons_zero, List.set_cons_succ]
    refine take_at (i := 11) (v := undef) rfl (by kernel_rfl) (by kernel_rfl) (by kernel_rfl) (fun _ _ _ h => h) (Or.inr ⟨by rfl, rfl⟩) (by assumption) ?_
    simp only [Act.put, List.setIfInBounds_toArray, List.set_cons_zero, List.set_cons_succ]
    refine take_at (i := 12) (v := undef) rfl (by kernel_rfl) (by kernel_rfl) (by kernel_rfl) (fun _ _ _ h => h) (Or.inr ⟨by rfl, rfl⟩) (by assumption) ?_
    simp only [Act.put, List.setIfInBounds_toArray, List.set_cons_zero, List.set_cons_succ]
    refine take_at (i := 13) (v := undef) rfl (by kernel_rfl) (by kernel_rfl) (by kernel_rfl) (fun _ _ _ h => h) (Or.inr ⟨by rfl, rfl⟩) (by assumption) ?_
    simp only [Act.put, List.setIfInBounds_toArray, List.set_cons_zero, List.set_cons_succ]
    refine take_at (i := 14) (v := undef) rfl (by kernel_rfl) (by kernel_rfl) (by kernel_rfl) (fun _ _ _ h => h) (Or.inr ⟨by rfl, rfl⟩) (by assumption) ?_
    simp only [Act.put, List.setIfInBounds_toArray, List.set_cons_zero, List.set_cons_succ]
    refine take_at (i := 15) (v := ?_) rfl (by kernel_rfl) (by kernel_rfl) (by kernel_rfl) (fun _ _ _ h => h) (Or.inl ⟨by rfl, ?_⟩) (by assumption) ?_
    rotate_left
    · (intro w' hSw; (try dsimp only at hSw); go_simp; (try with_reducible rfl))
    simp only [Act.put, List.setIfInBounds_toArray, List.set_cons_zero, List.set_cons_succ]
    refine wpAnyH_done (by kernel_rfl) ?_ _
    simp only [hl, Bool.false_and, Bool.not_false] at hQ
    exact hQ _ _ _ _ _ _ _ _ _ _ _ _ _ _ _ _ (hgr _)
  · rw [hl] at hlv
    refine hlv.mono ?_
    rintro e w1 ⟨rfl, o1, rfl⟩
    refine hK.out _ _ (hnext _ _ hHeld) (fun hHeld1 => ?_)
    clear hK K hHeld hlv
    (try simp only [Act.put, List.setIfInBounds_toArray, List.set_cons_zero, List.set_cons_succ])
    refine take_at (i := 3) (v := ?_) rfl (by kernel_rfl) (by kernel_rfl) (by kernel_rfl) (fun _ _ _ h => h) (Or.inl ⟨by rfl, ?_⟩) (by assumption) ?_
    rotate_left
    · (intro w' hSw; (try dsimp only at hSw); go_simp; (try with_reducible rfl))
    simp only [Act.put, List.setIfInBounds_toArray, List.set_cons_zero, List.set_cons_succ]
    refine take_at (i := 4) (v := ?_) rfl (by kernel_rfl) (by kernel_rfl) (by kernel_rfl) (fun _ _ _ h => h) (Or.inl ⟨by rfl, ?_⟩) (by assumption) ?_
    rotate_left
    · (intro w' hSw; (try dsimp only at hSw); go_simp; (try with_reducible rfl))
    simp only [Act.put, List.setIfInBounds_toArray, List.set_cons_zero, List.set_cons_succ]
    refine take_at (i := 5) (v := ?_) rfl (by kernel_rfl) (by kernel_rfl) (by kernel_rfl) (fun _ _ _ h => h) (Or.inl ⟨by rfl, ?_⟩) (by assumption) ?_
    rotate_left
    · (intro w' hSw; (try dsimp only at hSw); go_simp; (try with_reducible rfl))
    simp only [Act.put, List.setIfInBounds_toArray, List.set_cons_zero, List.set_cons_succ]
    refine take_at (i := 6) (v := ?_) rfl (by kernel_rfl) (by kernel_rfl) (by kernel_rfl) (fun _ _ _ h => h) (Or.inl ⟨by rfl, ?_⟩) (by assumption) ?_
    rotate_left
    · (intro w' hSw; (try dsimp only at hSw); go_simp; (try with_reducible rfl))
    simp only [Act.put, List.setIfInBounds_toArray, List.set_cons_zero, List.set_cons_succ]
    refine take_at (i := 7) (v := ?_) rfl (by kernel_rfl) (by kernel_rfl) (by kernel_rfl) (fun _ _ _ h => h) (Or.inl ⟨by rfl, ?_⟩) (by assumption) ?_
    rotate_left
    · (intro w' hSw; (try dsimp only at hSw); go_simp; (try with_reducible rfl))
    simp only [Act.put, List.setIfInBounds_toArray, List.set_cons_zero, List.set_cons_succ]
    refine take_at (i := 8) (v := ?_) rfl (by kernel_rfl) (by kernel_rfl) (by kernel_rfl) (fun _ _ _ h => h) (Or.inl ⟨by rfl, ?_⟩) (by assumption) ?_
    rotate_left
    · (intro w' hSw; (try dsimp only at hSw); go_simp; (try with_reducible rfl))
    simp only [Act.put, List.setIfInBounds_toArray, List.set_cons_zero, List.set_cons_succ]
    refine take_at (i := 9) (v := ?_) rfl (by kernel_rfl) (by kernel_rfl) (by kernel_rfl) (fun _ _ _ h => h) (Or.inl ⟨by rfl, ?_⟩) (by assumption) ?_
    rotate_left
    · (intro w' hSw; (try dsimp only at hSw); go_simp; (try with_reducible rfl))
    simp only [Act.put, List.setIfInBounds_toArray, List.set_cons_zero, List.set_cons_succ]
    refine take_at (i := 10) (v := ?_) rfl (by kernel_rfl) (by kernel_rfl) (by kernel_rfl) (fun _ _ _ h => h) (Or.inl ⟨by rfl, ?_⟩) (by assumption) ?_
    rotate_left
    · (intro w' hSw; (try dsimp only at hSw); go_simp; (try with_reducible rfl))
    simp only [Act.put, List.setIfInBounds_toArray, List.set_cons_zero, List.set_cons_succ]
    refine take_at (i := 11) (v := ?_) rfl (by kernel_rfl) (by kernel_rfl) (by kernel_rfl) (fun _ _ _ h => h) (Or.inl ⟨by rfl, ?_⟩) (by assumption) ?_
    rotate_left
    · (intro w' hSw; (try dsimp only at hSw); go_simp; (try with_reducible rfl))
    simp only [Act.put, List.setIfInBounds_toArray, List.set_cons_zero, List.set_cons_succ]
    refine take_at (i := 12) (v := ?_) rfl (by kernel_rfl) (by kernel_rfl) (by kernel_rfl) (fun _ _ _ h => h) (Or.inl ⟨by rfl, ?_⟩) (by assumption) ?_
    rotate_left
    · (intro w' hSw; (try dsimp only at hSw); go_simp; (try with_reducible rfl))
    simp only [Act.put, List.setIfInBounds_toArray, List.set_cons_zero, List.set_cons_succ]
    refine wpAnyH_ready (rs := [13]) (by kernel_rfl) (by simp) ?_
    refine cons_at rfl (fun K hK => ?_) AllReadyH.nil
    go_simp
    refine (enters_any k d _).mono ?_
    rintro e w1 ⟨rfl, o2, rfl⟩
    refine hK.out _ _ (hnext _ _ hHeld1) (fun hHeld => ?_)
    clear hK K hHeld1
    (try simp only [Act.put, List.setIfInBounds_toArray, List.set_cons_zero, List.set_cons_succ])
    refine take_at (i := 14) (v := ?_) rfl (by kernel_rfl) (by kernel_rfl) (by kernel_rfl) (fun _ _ _ h => h) (Or.inl ⟨by rfl, ?_⟩) (by assumption) ?_
    rotate_left
    · (intro w' hSw; (try dsimp only at hSw); go_simp; (try with_reducible rfl))
    simp only [Act.put, List.setIfInBounds_toArray, List.set_cons_zero, List.set_cons_succ]
    refine take_at (i := 15) (v := ?_) rfl (by kernel_rfl) (by kernel_rfl) (by kernel_rfl) (fun _ _ _ h => h) (Or.inl ⟨by rfl, ?_⟩) (by assumption) ?_
    rotate_left
    · (intro w' hSw; (try dsimp only at hSw); go_simp; (try with_reducible rfl))
    simp only [Act.put, List.setIfInBounds_toArray, List.set_cons_zero, List.set_cons_succ]
    refine wpAnyH_done (by kernel_rfl) ?_ _
    simp only [hl, Bool.true_and] at hQ
    exact hQ _ _ _ _ _ _ _ _ _ _ _ _ _ _ _ _ ((hgr _).trans (World.grownBy_alloc _ _ _))
end Go.Proofs.YtekhlaodlagbdaaGreatDoor
