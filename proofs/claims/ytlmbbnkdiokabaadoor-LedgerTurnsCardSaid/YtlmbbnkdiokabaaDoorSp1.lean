/-
  Queues: Len, who stands ahead, closures, the iterator.
-/
import Derived.Test.YtlmbbnkdiokabaaDoorSp0
import Derived.Test.YtlmbbnkdiokabaaDoorRange3
import Derived.RangeFuncNested
import Derived.RangeFuncBound
import Derived.RangeFuncCalls
import Derived.RangeFuncLeaves
import Derived.Shelf.Abstract
import Derived.Shelf.RegionOpen
import Derived.OwnWalk
import Derived.OwnWalkIn
import Derived.TacticsInMore
import Derived.LoopNIn
import Derived.LoopIn
import Derived.Deep.QuietTactic
import Derived.BigQuiet
import Derived.Sort.QuietIn
import Derived.Stop.RegionWithIn
import Derived.Lib.SliceRun
namespace Go.Proofs.YtlmbbnkdiokabaaDoor
set_option maxRecDepth 100000
set_option linter.unusedSimpArgs false
open Go Go.RowKit Sp
attribute [local go_sem] Oper.semAt_some

/-- A queue, or none. -/
def QP (w : World) (p : Option Addr) (l : List Wt) : Prop := (p = none ∧ l = []) ∨ ∃ o, p = some ⟨o, 0, none⟩ ∧ QAt w o l
theorem QP.len8 {w : World} {p : Option Addr} {l : List Wt} (h : QP w p l) : l.length ≤ 8 := by
  rcases h with ⟨_, rfl⟩ | ⟨o, _, h⟩
  · simp
  · exact h.1
/-- The block of a queue, if there is one. -/
def OfP (p : Option Addr) (k : Nat) : Prop := ∃ o, p = some (⟨o, 0, none⟩ : Addr) ∧ k = o
theorem QP.kept {w w' : World} {p : Option Addr} {l : List Wt} {X : Nat → Prop} (h : QP w p l) (hk : Kept X w w') (hb : ∀ k, OfP p k → ¬ X k) : QP w' p l := by
  rcases h with h | ⟨o, rfl, h⟩
  · exact .inl h
  · exact .inr ⟨o, rfl, h.kept hk (hb o ⟨o, rfl, rfl⟩)⟩
theorem QP.same {w w' : World} {p : Option Addr} {l : List Wt} (h : QP w p l) (hk : ∀ k, OfP p k → w'.heap[k]? = w.heap[k]?) : QP w' p l := by
  rcases h with h | ⟨o, rfl, h⟩
  · exact .inl h
  · exact .inr ⟨o, rfl, h.1, h.2.1, (hk o ⟨o, rfl, rfl⟩).trans h.2.2⟩
theorem QP.lt {w : World} {p : Option Addr} {l : List Wt} (h : QP w p l) {k : Nat} (hk : OfP p k) : k < w.heap.size := by
  obtain ⟨o, rfl, rfl⟩ := hk
  rcases h with ⟨h, _⟩ | ⟨o, h1, h⟩
  · cases h
  · cases h1; exact h.lt
theorem qlen_any {w : World} {p : Option Addr} {l : List Wt} (h : QP w p l) :
    Calls Tryd.prog 77 #[.pointer p] w fun e w' => e = .returned (.int .i64 (l.length : Nat)) ∧ w = w' := by
  rcases h with ⟨rfl, rfl⟩ | ⟨o, rfl, h⟩
  · go_enter Tryd.func77, Tryd.ntmps77
    go_wp2
    go_ret
    exact ⟨rfl, rfl⟩
  · have c0 := h.2.count
    clear h
    generalize l.length = n at *
    go_enter Tryd.func77, Tryd.ntmps77
    go_wp2
    go_ret
    exact ⟨rfl, rfl⟩

set_option maxHeartbeats 1000000 in
theorem ahead_any (w : World) (a b : Wt) :
    Calls Tryd.prog 83 #[wv a, wv b] w fun e w' => e = .returned (.bool (fore a b)) ∧ Below w.heap.size w w' ∧ w'.heap.size = w.heap.size + 2 := by
  obtain ⟨P, hP⟩ : ∃ P : Ending → World → Prop, P = fun e w' => e = .returned (.bool (fore a b)) ∧ Below w.heap.size w w' ∧ w'.heap.size = w.heap.size + 2 := ⟨_, rfl⟩
  have HP : Hid (∀ t t' c c', P (.returned (.bool (fore a b))) ((w.alloc (.cells c t)).alloc (.cells c' t'))) := by
    rw [hP]; intro t t' c c'; exact ⟨rfl, ((Below.refl _ w).alloc (Nat.le_refl _) _).alloc (by simp) _, by simp⟩
  rw [← hP]
  clear hP
  unfold fore at HP
  obtain ⟨r1, s1, p1⟩ := a
  obtain ⟨r2, s2, p2⟩ := b
  simp only [wv] at HP ⊢
  by_cases h1 : p1 = p2
  · subst h1
    by_cases h2 : s1 = s2
    · subst h2
      rw [if_pos rfl, if_pos rfl] at HP
      go_enter Tryd.func83, Tryd.ntmps83
      go_wp2
      exact HP.out _ _ _ _
    · rw [if_pos rfl, if_neg h2] at HP
      have e2 : (s1 == s2) = false := by simpa using h2
      go_enter Tryd.func83, Tryd.ntmps83
      go_wp2
      exact HP.out _ _ _ _
  · rw [if_neg h1] at HP
    have e1 : (p1 == p2) = false := by simpa using h1
    go_enter Tryd.func83, Tryd.ntmps83
    go_wp2
    exact HP.out _ _ _ _

set_option maxHeartbeats 1000000 in
theorem may_any (w : World) (a : Wt) :
    Calls Tryd.prog 72 #[wv a] w fun e w' => e = .returned (.bool (may a)) ∧ Below w.heap.size w w' ∧ w'.heap.size = w.heap.size + 1 := by
  obtain ⟨P, hP⟩ : ∃ P : Ending → World → Prop, P = fun e w' => e = .returned (.bool (may a)) ∧ Below w.heap.size w w' ∧ w'.heap.size = w.heap.size + 1 := ⟨_, rfl⟩
  have HP : Hid (∀ t c, P (.returned (.bool (may a))) (w.alloc (.cells c t))) := by
    rw [hP]; intro t c; exact ⟨rfl, (Below.refl _ w).alloc (Nat.le_refl _) _, by simp⟩
  rw [← hP]
  clear hP
  unfold may at HP
  obtain ⟨r1, s1, p1⟩ := a
  simp only [wv] at HP ⊢
  by_cases h1 : 0 ≤ r1
  · by_cases h2 : r1 < 64
    · by_cases h3 : 0 ≤ p1
      · by_cases h4 : p1 ≤ 15
        · simp only [h1, h2, h3, h4, decide_true, Bool.and_true] at HP
          go_enter Tryd.func72, Tryd.ntmps72
          go_wp2
          exact HP.out _ _
        · simp only [h1, h2, h3, h4, decide_true, decide_false, Bool.and_true, Bool.and_false] at HP
          go_enter Tryd.func72, Tryd.ntmps72
          go_wp2
          exact HP.out _ _
      · simp only [h1, h2, h3, decide_true, decide_false, Bool.and_true, Bool.and_false, Bool.false_and] at HP
        go_enter Tryd.func72, Tryd.ntmps72
        go_wp2
        exact HP.out _ _
    · simp only [h1, h2, decide_true, decide_false, Bool.and_true, Bool.and_false, Bool.false_and] at HP
      go_enter Tryd.func72, Tryd.ntmps72
      go_wp2
      exact HP.out _ _
  · simp only [h1, decide_true, decide_false, Bool.and_true, Bool.and_false, Bool.false_and] at HP
    go_enter Tryd.func72, Tryd.ntmps72
    go_wp2
    exact HP.out _ _

theorem of_any (w : World) (r : Int) :
    Calls Tryd.prog 74 #[.int .i64 r] w fun e w' => e = .returned (.func (.func 81) #[] #[.pointer (some ⟨w.heap.size, 0, none⟩)]) ∧ w' = w.alloc (.cells #[.int .i64 r] 3) := by
  go_enter Tryd.func74, Tryd.ntmps74
  go_wp2
  go_ret
  exact ⟨rfl, rfl⟩
theorem of1_any {w : World} {k : Nat} {r : Int} (hk : w.heap[k]? = some (.cells #[.int .i64 r] 3 (0, 0))) (x : Wt) :
    Calls Tryd.prog 81 #[wv x, .pointer (some ⟨k, 0, none⟩)] w fun e w' => e = .returned (.bool (x.r == r)) ∧ Below w.heap.size w w' := by
  have c0 : ∀ c t, (w.alloc (.cells c t)).cell? ⟨k, 0, none⟩ = some (.int .i64 r) := fun c t => Lib.cell?_alloc_some _ (by rw [blk_cell hk]; rfl)
  clear hk
  obtain ⟨P, hP⟩ : ∃ P : Ending → World → Prop, P = fun e w' => e = .returned (.bool (x.r == r)) ∧ Below w.heap.size w w' := ⟨_, rfl⟩
  have HP : Hid (∀ t c, P (.returned (.bool (x.r == r))) (w.alloc (.cells c t))) := by
    rw [hP]; intro t c; exact ⟨rfl, (Below.refl _ w).alloc (Nat.le_refl _) _⟩
  rw [← hP]
  clear hP
  obtain ⟨r1, s1, p1⟩ := x
  simp only [wv] at HP ⊢
  go_enter Tryd.func81, Tryd.ntmps81
  go_wp2
  exact HP.out _ _
theorem ins1_any {w : World} {k : Nat} {y : Wt} (hk : w.heap[k]? = some (.cells #[.int .i64 y.r, .int .u64 y.s, .int .i64 y.p] 71 (0, 0))) (x : Wt) :
    Calls Tryd.prog 82 #[wv x, .pointer (some ⟨k, 0, none⟩)] w fun e w' => e = .returned (.bool (fore y x)) ∧ Below w.heap.size w w' := by
  have c0 : ∀ c t, (w.alloc (.cells c t)).cell? ⟨k, 0, none⟩ = some (.int .i64 y.r) := fun c t => Lib.cell?_alloc_some _ (by rw [blk_cell hk]; rfl)
  have c1 : ∀ c t, (w.alloc (.cells c t)).cell? ⟨k, 1, none⟩ = some (.int .u64 y.s) := fun c t => Lib.cell?_alloc_some _ (by rw [blk_cell hk]; rfl)
  have c2 : ∀ c t, (w.alloc (.cells c t)).cell? ⟨k, 2, none⟩ = some (.int .i64 y.p) := fun c t => Lib.cell?_alloc_some _ (by rw [blk_cell hk]; rfl)
  clear hk
  have HC : Hid (∀ t c, Calls Tryd.prog 83 #[wv y, wv x] (w.alloc (.cells c t)) fun e w' => e = .returned (.bool (fore y x)) ∧ Below w.heap.size w w') := by
    intro t c
    refine (ahead_any _ y x).mono ?_
    rintro e w' ⟨rfl, h1, _⟩
    exact ⟨rfl, ((Below.refl _ w).alloc (Nat.le_refl _) _).trans (h1.mono (by simp))⟩
  obtain ⟨r1, s1, p1⟩ := x
  obtain ⟨r2, s2, p2⟩ := y
  simp only [wv] at HC c0 c1 c2 ⊢
  generalize fore _ _ = t at *
  go_enter Tryd.func82, Tryd.ntmps82
  go_wp2_with fail
  refine (HC.out _ _).mono ?_
  rintro e w' ⟨rfl, hb⟩
  have HB := Lib.hid hb
  clear hb
  go_wp2
  go_ret
  exact ⟨rfl, HB.out⟩

theorem told_any (w : World) (p : Option Addr) :
    Calls Tryd.prog 69 #[.pointer p] w fun e w' => e = .returned (.func (.func 80) #[] #[.pointer (some ⟨w.heap.size, 0, none⟩)]) ∧ w' = w.alloc (.cells #[.pointer p] 117) := by
  go_enter Tryd.func69, Tryd.ntmps69
  go_wp2
  go_ret
  exact ⟨rfl, rfl⟩

/-- What is told of a queue. -/
def enW (x : Nat × Wt) : Array Value := #[.int .i64 ((x.1 % 8 : Nat) : Int), wv x.2]
def tel (l : List Wt) : List (Nat × Wt) := (List.range l.length).map fun i => (i, l.getD i w0)
theorem tel_length (l : List Wt) : (tel l).length = l.length := by simp [tel]
theorem tel_take (l : List Wt) {j : Nat} (hj : j < l.length) : (tel l).take (j + 1) = (tel l).take j ++ [(j, l.getD j w0)] := by
  rw [List.take_add_one]
  congr 1
  rw [List.getElem?_eq_getElem (by rw [tel_length]; exact hj)]
  simp [tel]
/-- What a round keeps. -/
def KpT (S : Nat → Prop) (A B : World) : Prop := ∀ k, S k → B.heap[k]? = A.heap[k]?
theorem KpT.trans {S : Nat → Prop} {A B C : World} (h : KpT S A B) (k : KpT S B C) : KpT S A C := fun i hi => (k i hi).trans (h i hi)
/-- What an iterator is asked that may be left, at rounds of which it is known what they are told. -/
def TellsX {α : Type} (n : Nat) (P : Program) (gf : Nat) (lb : Array Value) (encs : α → Array Value) (Kp : World → World → Prop) (S Sp : List α → Prop) (Pp : List α → α → Prop) (w : World) : Prop :=
  ∀ (l : Nat) (J Jx : List α → World → Prop) (W : World), Below w.heap.size w W →
    (∀ pre x W1, J pre W1 → Pp pre x → YieldAt Fence.wide (n - 1) P l (encs x) W1 fun e W' => (e = .returned (.bool true) ∧ J (pre ++ [x]) W' ∧ Kp W1 W') ∨ (e = .returned (.bool false) ∧ Jx (pre ++ [x]) W')) →
    J [] W → CallsIn Fence.wide n P gf (#[.func (.yield l) #[] #[]] ++ lb) W fun e W' => (∃ v, e = .returned v) ∧ ((∃ xs, S xs ∧ J xs W') ∨ (∃ pre, Sp pre ∧ Jx pre W'))

set_option maxHeartbeats 2000000 in
theorem told_x (n : Nat) (hn : 1 ≤ n) {w : World} {S : Nat → Prop} {p : Option Addr} {bx : Nat} {l : List Wt} (hq : QP w p l) (hx : w.cell? ⟨bx, 0, none⟩ = some (.pointer p)) (hS : ∀ k, OfP p k ∨ k = bx → S k) (hlt : ∀ k, S k → k < w.heap.size) :
    TellsX n Tryd.prog 80 #[.pointer (some ⟨bx, 0, none⟩)] enW (KpT S)
      (fun xs => xs = tel l) (fun pre => pre <+: tel l) (fun pre x => pre ++ [x] <+: tel l) w := by
  intro y J Jx W hW hY h0
  have HY' := Lib.hid hY
  have hl8 := hq.len8
  have hk0 : KpT S w W := fun k hk => hW.block k (hlt k hk)
  have HL : Hid (∀ V, KpT S w V → Calls Tryd.prog 77 #[.pointer p] V fun e w' => e = .returned (.int .i64 (l.length : Nat)) ∧ V = w') :=
    fun V hV => qlen_any (hq.same (fun k hk => hV k (hS k (.inl hk))))
  have HV : Hid (∀ V, KpT S w V → V.cell? ⟨bx, 0, none⟩ = some (.pointer p)) :=
    fun V hV => (World.cell?_of_block (a := ⟨bx, 0, none⟩) (hV bx (hS bx (.inr rfl)))).trans hx
  have HG : Hid (∀ V j, KpT S w V → j < l.length → ∃ o, p = some ⟨o, 0, none⟩ ∧ V.cell? ⟨o, j * 3, none⟩ = some (.int .i64 (l.getD j w0).r) ∧ V.cell? ⟨o, j * 3 + 1, none⟩ = some (.int .u64 (l.getD j w0).s) ∧ V.cell? ⟨o, j * 3 + 2, none⟩ = some (.int .i64 (l.getD j w0).p)) := by
    intro V j hV hj
    rcases hq.same (fun k hk => hV k (hS k (.inl hk))) with ⟨_, rfl⟩ | ⟨o, rfl, h⟩
    · simp at hj
    · have := h.2.wt (j := j) (by have := h.1; omega)
      rw [pad_get hj] at this
      exact ⟨o, rfl, this⟩
  have cx := HV.out W hk0
  have HLW := Lib.hid (HL.out W hk0)
  have HK0 := Lib.hid hk0
  have HT := Lib.hid (fun j (hj : j < l.length) => tel_take l hj)
  have HTL := Lib.hid (tel_length l)
  clear hW hY hx hk0 hq hS hlt
  obtain ⟨P, hP⟩ : ∃ P : Ending → World → Prop, P = fun e W' => (∃ v, e = .returned v) ∧ ((∃ xs : List (Nat × Wt), xs = tel l ∧ J xs W') ∨ (∃ pre : List (Nat × Wt), pre <+: tel l ∧ Jx pre W')) := ⟨_, rfl⟩
  have HQ1 : Hid (∀ (xs : List (Nat × Wt)) (W' : World), xs = tel l → J xs W' → P (.returned (.tuple #[])) W') := by
    rw [hP]; exact fun xs W' h1 h2 => ⟨⟨_, rfl⟩, .inl ⟨xs, h1, h2⟩⟩
  have HQ2 : Hid (∀ (xs : List (Nat × Wt)) (W' : World), xs <+: tel l → Jx xs W' → P (.returned (.tuple #[])) W') := by
    rw [hP]; exact fun xs W' h1 h2 => ⟨⟨_, rfl⟩, .inr ⟨xs, h1, h2⟩⟩
  rw [← hP]
  clear hP
  have H0 := Lib.hid h0
  clear h0
  obtain ⟨L, hL⟩ : ∃ L, L = l.length := ⟨_, rfl⟩
  rw [← hL] at HL HG HLW HT HTL hl8
  refine callsIn_of_wp Tryd.func80 rfl trivial ?_ rfl
  simp only [Tryd.ntmps80, List.size_toArray, List.length_cons, List.length_nil, Nat.reduceAdd, Nat.reduceSub, Array.replicate_succ, Array.replicate_zero, List.push_toArray, List.append_toArray, List.nil_append, List.cons_append]
  gi_wp2_with fail
  refine ⟨trivial, (callsIn_wide.2 HLW.out).mono ?_⟩
  rintro e w' ⟨rfl, rfl⟩
  gi_wp2
  gi_loopw [6] (fun i wr => ∃ (j : Nat) (pre : List (Nat × Wt)), j ≤ L ∧ i = .int .i64 (j : Int) ∧ pre = (tel l).take j ∧ J pre wr ∧ KpT S w wr) (fun i _ => L - (intOf i).toNat)
  case atStart => exact ⟨0, [], by omega, rfl, by simp, H0.out, HK0.out⟩
  case round =>
    obtain ⟨j, pre, hj, rfl, hpre, hJ, hK⟩ := hrel
    rename World => V
    have HP := Lib.hid hpre
    have HJ := Lib.hid hJ
    have HK := Lib.hid hK
    have e1 := HV.out V hK
    clear hpre hJ hK
    by_cases h5 : j < L
    · obtain ⟨g, hA, q0, q1, q2⟩ := HG.out V j HK.out h5
      have HS : Hid (pre ++ [(j, l.getD j w0)] = (tel l).take (j + 1)) := by
        rw [Hid, HT.out j h5, HP.out]
      have hY := HY'.out pre (j, l.getD j w0) V HJ.out (by rw [HS.out]; exact List.take_prefix _ _)
      obtain ⟨fn, tmps, assign, body, hrun, hR⟩ := hY
      have hj8 : j % 8 = j := Nat.mod_eq_of_lt (by omega)
      have h58 : j < 8 := by omega
      dsimp only [enW, wv] at hrun
      rw [hj8] at hrun
      have HRR := Lib.hid hR
      clear hR hj8
      subst hA
      generalize pre ++ [(j, l.getD j w0)] = pre2 at *
      generalize (l.getD j w0).r = x0 at *
      generalize (l.getD j w0).s = x1 at *
      generalize (l.getD j w0).p = x2 at *
      gi_wp2
      refine HRR.out.mono ?_
      rintro e W' (⟨rfl, hJ', hK'⟩ | ⟨rfl, hJx⟩)
      · have HJ2 := Lib.hid hJ'
        have HK2 := Lib.hid (HK.out.trans hK')
        clear hJ' hK' hrun HRR
        gi_wp2
        go_roundw
        case rel => exact ⟨j + 1, pre2, by omega, by go_num, HS.out, HJ2.out, HK2.out⟩
        case measure => simp [intOf]; omega
      · have HF : Hid (P (.returned (.tuple #[])) W') := HQ2.out pre2 W' (by rw [HS.out]; exact List.take_prefix _ _) hJx
        clear hJx hrun HRR
        gi_wp2
        exact bodyPost_ret (results_none rfl _ _ _) rfl HF.out
    · obtain rfl : j = L := by omega
      have HF : Hid (P (.returned (.tuple #[])) V) := HQ1.out pre V (by
        rw [HP.out, List.take_of_length_le]
        rw [HTL.out]; omega) HJ.out
      gi_wp2
      exact bodyPost_end (results_none rfl _ _ _) rfl HF.out
theorem told_stops (n : Nat) (hn : 1 ≤ n) {w : World} {S : Nat → Prop} {p : Option Addr} {bx : Nat} {l : List Wt} (hq : QP w p l) (hx : w.cell? ⟨bx, 0, none⟩ = some (.pointer p)) (hS : ∀ k, OfP p k ∨ k = bx → S k) (hlt : ∀ k, S k → k < w.heap.size) :
    SeqStopsK Fence.wide n Tryd.prog 80 #[.pointer (some ⟨bx, 0, none⟩)] enW (KpT S)
      (fun xs => xs = tel l) (fun pre => pre <+: tel l) 8 w := by
  intro y J Jx W hW _ _ hY h0
  refine told_x n hn hq hx hS hlt y J Jx W hW (fun pre x W1 h1 h2 => hY pre x W1 h1 ?_) h0
  have := h2.length_le
  rw [tel_length] at this
  have := hq.len8
  simp at *; omega
theorem told_tells (n : Nat) (hn : 1 ≤ n) {w : World} {S : Nat → Prop} {p : Option Addr} {bx : Nat} {l : List Wt} (hq : QP w p l) (hx : w.cell? ⟨bx, 0, none⟩ = some (.pointer p)) (hS : ∀ k, OfP p k ∨ k = bx → S k) (hlt : ∀ k, S k → k < w.heap.size) :
    TellsP n Tryd.prog 80 #[.pointer (some ⟨bx, 0, none⟩)] enW (fun A B => A = B) (KpT S) (fun xs _ => xs = tel l) (fun pre x => pre ++ [x] <+: tel l) w := by
  intro y J W hW _ hY h0
  refine (told_x n hn hq hx hS hlt y J (fun _ _ => False) W hW (fun pre x W1 h1 h2 => ?_) h0).mono ?_
  · obtain ⟨fn, tmps, assign, body, hrun, hR⟩ := hY pre x W1 h1 h2
    exact ⟨fn, tmps, assign, body, hrun, hR.mono fun e W' h => .inl h⟩
  · rintro e W' ⟨hv, ⟨xs, h1, h2⟩ | ⟨_, _, h⟩⟩
    · exact ⟨hv, xs, h1, h2⟩
    · exact h.elim
end Go.Proofs.YtlmbbnkdiokabaaDoor
