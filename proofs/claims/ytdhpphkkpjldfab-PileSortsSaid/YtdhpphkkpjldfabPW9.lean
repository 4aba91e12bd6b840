/-
  The pile's iterator taken: its walk.
-/
import Derived.Test.YtdhpphkkpjldfabPW8
import Derived.Test.YtdhpphkkpjldfabRange2
import Derived.RangeFuncBound
import Derived.Shelf.Abstract
import Derived.Shelf.RegionOpen
import Derived.OwnWalkIn
import Derived.TacticsInMore
import Derived.LoopNIn
import Derived.LoopIn
import Derived.Deep.QuietTactic
import Derived.BigQuiet
import Derived.Sort.QuietIn
import Derived.Stop.RegionWithIn
namespace Go.Proofs.Ytdhpphkkpjldfab
set_option maxRecDepth 100000
open Go Go.RowKit Pq
attribute [local go_sem] Oper.semAt_some

/-- What a round keeps: the blocks of X. -/
def KeepB (X : Nat → Prop) (A B : World) : Prop := A.heap.size ≤ B.heap.size ∧ A.os = B.os ∧ A.tape = B.tape ∧ A.output = B.output ∧ ∀ k, X k → k < A.heap.size → B.heap[k]? = A.heap[k]?
theorem KeepB.trans {X : Nat → Prop} {A B C : World} (h : KeepB X A B) (k : KeepB X B C) : KeepB X A C :=
  ⟨Nat.le_trans h.1 k.1, h.2.1.trans k.2.1, h.2.2.1.trans k.2.2.1, h.2.2.2.1.trans k.2.2.2.1, fun i hx hi => (k.2.2.2.2 i hx (Nat.lt_of_lt_of_le hi h.1)).trans (h.2.2.2.2 i hx hi)⟩
theorem KeepB.kept {X : Nat → Prop} {A B : World} (h : KeepB X A B) : Kept (fun k => ¬ X k) A B :=
  ⟨h.2.1.symm, h.2.2.1.symm, h.2.2.2.1.symm, h.1, fun k hk hx => h.2.2.2.2 k (Classical.not_not.1 hx) hk⟩
theorem KeepB.of_kept {X Y : Nat → Prop} {A B : World} (h : Kept Y A B) (hX : ∀ k, X k → k < A.heap.size → ¬ Y k) : KeepB X A B :=
  ⟨h.size, h.os.symm, h.tape.symm, h.output.symm, fun k hx hk => h.block k hk (hX k hx hk)⟩

/-- The iterator's own steps. -/
def TakeT (b j : Nat) (r : Option Nat) (A B : World) : Prop := Kp b j r A B ∧ ∀ (k : Nat) (o : Obj), A.heap[k]? = some o → o.isCells = false → B.heap[k]? = some o

theorem TakeT.of_pile {w w' : World} {b j : Nat} {r : Option Nat} {s : List It} (h : PileS w b j r s) (hk : Kp b j r w w') : TakeT b j r w w' :=
  ⟨hk, fun k o ho hc => h.others hk.kept k o ho (by rintro c t f rfl; cases hc)⟩
theorem TakeT.of_new {w w' : World} {b j : Nat} {r : Option Nat} (hk : Kept (fun _ => False) w w') (hb : b < w.heap.size) : TakeT b j r w w' :=
  ⟨Kp.of_kept hk hb id (fun _ _ h => h.elim), fun k _ ho _ => (hk.block k (Array.getElem?_eq_some_iff.1 ho).1 id).trans ho⟩

/-- The blocks that a round leaves as they are. -/
def TakeX (bn bp b : Nat) (r : Option Nat) (k : Nat) : Prop := k = bn ∨ k = bp ∨ Of b r k

set_option maxHeartbeats 2000000 in
theorem taken_tells (n : Nat) (hn : 1 ≤ n) (bn bp b j : Nat) (r : Option Nat) (s : List It) (m : Int) (w : World) (hs : PileS w b j r s) (hl : s.length ≤ 9999)
    (h1 : w.cell? ⟨bn, 0, none⟩ = some (.int .i64 m)) (h2 : w.cell? ⟨bp, 0, none⟩ = some (.pointer (some ⟨b, j, none⟩))) (hbp : ¬ Of b r bp) :
    Tells n Try.prog 28 #[.pointer (some ⟨bn, 0, none⟩), .pointer (some ⟨bp, 0, none⟩)] (fun x : It => #[.agg #[.int .i64 x.c, .int .i64 x.t, .int .i64 x.i]]) (TakeT b j r) (KeepB (TakeX bn bp b r))
      (fun xs W => xs = s.take m.toNat ∧ PileS W b j r (s.drop m.toNat)) s.length w := by
  intro l J W hW hJ hY h0
  have hsW := hs.below hW (Nat.le_refl _)
  have h1W : W.cell? ⟨bn, 0, none⟩ = some (.int .i64 m) := (hW.cell (p := ⟨bn, 0, none⟩) (World.block_lt_of_cell? w _ h1)).trans h1
  have h2W : W.cell? ⟨bp, 0, none⟩ = some (.pointer (some ⟨b, j, none⟩)) := (hW.cell (p := ⟨bp, 0, none⟩) (World.block_lt_of_cell? w _ h2)).trans h2
  have HS := Lib.hid hsW
  have HY := Lib.hid hY
  have HJ := Lib.hid hJ
  have HL := Lib.hid hl
  clear hs h1 h2 hsW hW hY hJ hl
  refine callsIn_of_wp Try.func28 rfl trivial ?_ rfl
  simp only [Try.ntmps28, List.size_toArray, List.length_cons, List.length_nil, Nat.reduceAdd, Nat.reduceSub, Array.replicate_succ, Array.replicate_zero, List.push_toArray, List.append_toArray, List.nil_append, List.cons_append]
  gi_wp2
  gi_loopw [7] (fun i wr => ∃ k : Nat, k ≤ s.length ∧ i = .int .i64 k ∧ k ≤ m.toNat ∧ PileS wr b j r (s.drop k) ∧ J (s.take k) wr ∧ wr.cell? ⟨bp, 0, none⟩ = some (.pointer (some ⟨b, j, none⟩))) (fun i _ => s.length - (intOf i).toNat)
  case atStart => exact ⟨0, Nat.zero_le _, rfl, Nat.zero_le _, HS.out, h0, h2W⟩
  case round =>
    obtain ⟨k, hk, rfl, hkm, hp, hj, hc⟩ := hrel
    have HP := Lib.hid hp
    have HJk := Lib.hid hj
    clear hp hj h1W h2W h0
    have hkb : k ≤ 9999 := Nat.le_trans hk HL.out
    by_cases hlt : (k : Int) < m
    · cases hd : s.drop k with
      | nil =>
        have hkl : s.length = k := by
          have := congrArg List.length hd
          simp at this
          omega
        have hP0 := HP.out
        rw [hd] at hP0
        have HQ : Hid (∀ w', Below wr.heap.size wr w' → ∀ o, (∃ xs, (xs = s.take m.toNat ∧ PileS (w'.alloc o) b j r (s.drop m.toNat)) ∧ J xs (w'.alloc o))) := by
          intro w' hb o
          refine ⟨s.take k, ⟨?_, ?_⟩, ?_⟩
          · rw [List.take_of_length_le (by omega), List.take_of_length_le (by omega)]
          · rw [List.drop_of_length_le (by omega)]
            exact (hP0.below hb (Nat.le_refl _)).alloc o
          · exact HJ.out _ _ _ HJk.out (TakeT.of_new ((Kept.of_below hb (Nat.le_refl _)).alloc o) (HP.out.lt _ (.inl rfl)))
        have HC := Lib.hid (pop_nil hP0)
        clear hP0 hd hkl
        gi_wp2_with fail
        refine ⟨trivial, (callsIn_wide.2 HC.out).mono ?_⟩
        rintro e w1 ⟨rfl, hb1⟩
        have HB1 := Lib.hid hb1
        clear hb1
        gi_wp2
        refine ⟨fun _ h => (by cases h), ?_⟩
        gi_wp2
        refine bodyPost_ret (results_none rfl _ _ _) rfl ?_
        exact ⟨⟨_, rfl⟩, HQ.out _ HB1.out _⟩
      | cons x rest =>
        have hk1 : k < s.length := by
          have := congrArg List.length hd
          simp at this
          omega
        have hdr : s.drop (k + 1) = rest := by
          have := congrArg List.tail hd
          simpa using this
        have htk : s.take (k + 1) = s.take k ++ [x] := by
          have hx : s[k] = x := by
            have := congrArg List.head? hd
            simp [hk1] at this
            exact this
          rw [List.take_succ_eq_append_getElem hk1, hx]
        have hP0 := HP.out
        rw [hd] at hP0
        have hrl : rest.length ≤ 9999 := by
          have h5 := congrArg List.length hd
          have h6 := HL.out
          simp at h5
          omega
        have HC := Lib.hid (pop_s hP0 hrl)
        have HT : Hid (∀ w', Kp b j r wr w' → J (s.take k) w') := fun w' hk => HJ.out _ _ _ HJk.out (TakeT.of_pile HP.out hk)
        have HLT := Lib.hid hP0.lt
        have hbpl := World.block_lt_of_cell? wr _ hc
        have HD := Lib.hid hdr
        have HTK := Lib.hid htk
        have hpre : (s.take k).length < s.length := by simp; omega
        clear hP0 hdr htk hd
        gi_wp2_with fail
        refine ⟨trivial, (callsIn_wide.2 HC.out).mono ?_⟩
        rintro e w1 ⟨rfl, hp1, hk1'⟩
        have hJ1 : ∀ o, J (s.take k) (w1.alloc o) := fun o => HJ.out _ _ _ (HT.out _ hk1') (TakeT.of_new ((Kept.refl _ w1).alloc o) (hp1.lt _ (.inl rfl)))
        have hc1 : w1.cell? ⟨bp, 0, none⟩ = some (.pointer (some ⟨b, j, none⟩)) := hk1'.kept.cell hc hbp
        have hc2 := cell_a1 hc1
        obtain ⟨fn, tmps, assign, body, hy, hR⟩ := HY.out (s.take k) x (w1.alloc (.cells #[.int .i64 x.c, .int .i64 x.t, .int .i64 x.i] 32)) (hJ1 _) hpre
        have HP1 := Lib.hid (hp1.alloc (.cells #[.int .i64 x.c, .int .i64 x.t, .int .i64 x.i] 32))
        have HBP := Lib.hid (World.block_lt_of_cell? w1 _ hc1)
        clear hJ1 hp1 hk1'
        gi_wp2
        refine hR.mono ?_
        rintro e W' ⟨rfl, hJ', hk'⟩
        have hcB : W'.cell? ⟨bp, 0, none⟩ = some (.pointer (some ⟨b, j, none⟩)) := (hk'.kept.cell (hc2 _) (fun h => h (.inr (.inl rfl))))
        have HPB : Hid (PileS W' b j r (s.drop (k + 1))) := by
          show PileS _ _ _ _ _
          rw [HD.out]
          exact HP1.out.kept hk'.kept (fun i hi h => h (.inr (.inr hi)))
        have HJB : Hid (J (s.take (k + 1)) W') := by
          show J _ _
          rw [HTK.out]
          exact hJ'
        clear hJ' hk' hy
        gi_wp2
        go_roundw
        case rel => exact ⟨k + 1, by omega, by go_num, by omega, HPB.out, HJB.out, hcB⟩
        case measure => simp [intOf]; omega
    · have HQ : Hid (∃ xs, (xs = s.take m.toNat ∧ PileS wr b j r (s.drop m.toNat)) ∧ J xs wr) := by
        have hm : m.toNat = k := by omega
        exact ⟨s.take k, ⟨by rw [hm], by rw [hm]; exact HP.out⟩, HJk.out⟩
      gi_wp2
      go_end0
      exact ⟨⟨_, rfl⟩, HQ.out⟩
end Go.Proofs.Ytdhpphkkpjldfab
