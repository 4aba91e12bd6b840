/-
  The claims of a home.
-/
import Derived.Test.YtijhkjegpcmjoaaCl4
import Derived.Test.YtijhkjegpcmjoaaRange4
import Derived.RangeFuncBound
import Derived.RangeFuncBox
import Derived.OwnWalkIn
import Derived.TacticsInMore
import Derived.LoopNIn
import Derived.LoopIn
import Derived.Maps.OwnIn
import Derived.Deep.AppendLies
namespace Go.Proofs.Ytijhkjegpcmjoaa
set_option maxRecDepth 100000
set_option linter.unusedSimpArgs false
open Go Go.RowKit Cl
attribute [local go_sem] Oper.semAt_some

/-- A list of claims in a variable; of what there was the blocks of X alone may have turned. -/
structure LM (F q : Nat) (X : Nat → Prop) (W0 : World) (l : List Cm) (W : World) : Prop where
  own : ∃ v, W.heap[q]? = some (.cells #[v] 42 (0, 0)) ∧ W.ownsRow F 26 2 v l.length (csM l)
  kp : Kept X W0 W
section
variable {F q : Nat} {X : Nat → Prop} {W0 W W2 : World} {l : List Cm}
theorem LM.step {row : Option Nat} (h : LM F q X W0 l W) (hF : F = W0.heap.size) (hq : q < F) (hg : W.grownBy W2 row) (hr : ∀ r, row = some r → F ≤ r ∧ ∃ o : Obj, W.heap[r]? = some o ∧ o.isCells = false) : LM F q X W0 l W2 := by
  obtain ⟨⟨v', h1, h2⟩, h4⟩ := h
  have hqb : W2.heap[q]? = W.heap[q]? := hg.block q (blk_lt h1) (fun e => by have := (hr q e.symm).1; omega)
  refine ⟨⟨v', hqb.trans h1, ?_⟩, h4.grown hg (fun k e => .inr (by have := (hr k e).1; omega))⟩
  refine h2.kept hg ?_
  rcases h2.2 with ⟨rfl, _⟩ | ⟨g', cap, cur, rfl, _, hgg, _⟩
  · exact .inl rfl
  · refine .inr (fun e => ?_)
    obtain ⟨_, o, ho, hc⟩ := hr g' (e.symm)
    rw [hgg] at ho
    cases ho
    cases hc
theorem LM.take (h : LM F q X W0 l W) (hk : Kept (fun _ => False) W W2) : LM F q X W0 l W2 := by
  obtain ⟨⟨v', h1, h2⟩, h4⟩ := h
  exact ⟨⟨v', (hk.block q (blk_lt h1) id).trans h1, hk.row h2 (fun _ _ => id)⟩, h4.trans hk (fun _ _ h => h.elim)⟩
theorem LM.snoc {v v' : Value} {o : Obj} {x : Cm} (hF : F = W0.heap.size) (hq : q < F) (hqX : X q)
    (h1 : W.heap[q]? = some (.cells #[v] 42 (0, 0))) (h2 : W.ownsRow F 26 2 v l.length (csM l)) (h4 : Kept X W0 W)
    (hg : (W.alloc o).grownBy W2 v.ownBlock) (ho : W2.ownsRow F 26 2 v' (l.length + 1) (csM l ++ mc x)) :
    (W2.cell? ⟨q, 0, none⟩ = some v ∧ W2.frozen? ⟨q, 0, none⟩ = false) ∧ KeepsFrom F W (W2.setCell ⟨q, 0, none⟩ v') ∧ (∀ k, k < F → ¬ X k → (W2.setCell ⟨q, 0, none⟩ v').heap[k]? = W.heap[k]?) ∧ LM F q X W0 (l ++ [x]) (W2.setCell ⟨q, 0, none⟩ v') := by
  have hne : ∀ k, v.ownBlock = some k → F ≤ k ∧ ∃ c f, W.heap[k]? = some (.cells c 26 f) := by
    intro k e
    rcases h2.2 with ⟨rfl, _⟩ | ⟨g', cap, cur, rfl, hb, hgg, _⟩
    · cases e
    · have : g' = k := by simpa [Value.ownBlock] using e
      subst this
      exact ⟨hb, _, _, hgg⟩
  have hne' : ∀ k, v'.ownBlock = some k → F ≤ k := by
    intro k e
    rcases ho.2 with ⟨rfl, _⟩ | ⟨g', cap, cur, rfl, hb, hgg, _⟩
    · cases e
    · have : g' = k := by simpa [Value.ownBlock] using e
      subst this
      exact hb
  have hqW : q < W.heap.size := blk_lt h1
  have hFW : F ≤ W.heap.size := by rw [hF]; exact h4.size
  have K1 : Kept (fun k => v.ownBlock = some k) W W2 := ((Kept.refl _ W).alloc o).grown hg (fun k e => .inl e)
  have b2 : W2.heap[q]? = some (.cells #[v] 42 (0, 0)) := (K1.block q hqW (fun e => by have := (hne q e).1; omega)).trans h1
  have KX : Kept (fun k => k = q ∨ v.ownBlock = some k) W (W2.setCell ⟨q, 0, none⟩ v') := (K1.mono (fun _ _ h => .inr h)).setCell (p := ⟨q, 0, none⟩) (.inl (.inl rfl)) _
  have b3 : (W2.setCell ⟨q, 0, none⟩ v').heap[q]? = some (.cells #[v'] 42 (0, 0)) := by rw [blk_set b2]; rfl
  refine ⟨⟨by rw [blk_cell b2]; rfl, blk_free b2 0⟩, ⟨KX.size, fun k ob hk hob hc => ?_⟩, fun k hk hx => ?_, ⟨⟨v', b3, ?_⟩, ?_⟩⟩
  · refine (KX.block k (blk_lt hob) ?_).trans hob
    rintro (e | e)
    · omega
    · obtain ⟨_, c, f, h5⟩ := hne k e
      rw [h5] at hob
      cases hob
      cases hc
  · refine KX.block k (by omega) ?_
    rintro (e | e)
    · exact hx (e ▸ hqX)
    · have := (hne k e).1; omega
  · have e : csM (l ++ [x]) = csM l ++ mc x := by rw [csM_append]; simp [csM]
    have e2 : (l ++ [x]).length = l.length + 1 := by simp
    rw [e, e2]
    exact Kept.row ((Kept.refl (fun k => k = q) W2).setCell (p := ⟨q, 0, none⟩) (.inl rfl) _) ho (fun k hk e => by have := hne' k hk; omega)
  · exact h4.trans KX (fun i hi hx => by
      rcases hx with rfl | hx
      · exact hqX
      · have := (hne i hx).1; omega)
end


namespace Cl
/-- Of a home. -/
def hmF (h r : Int) (x : Cm) : Bool := decide (x.c % r = h)
def ofL (l : List Cm) (h r : Int) : List Cm := l.filter (hmF h r)
end Cl
def enM (x : Cm) : Array Value := #[mv x]
def KpT (S : Nat → Prop) (A B : World) : Prop := A.heap.size ≤ B.heap.size ∧ ∀ i, S i → B.heap[i]? = A.heap[i]?
theorem KpT.trans {S : Nat → Prop} {A B C : World} (h : KpT S A B) (k : KpT S B C) : KpT S A C := ⟨Nat.le_trans h.1 k.1, fun i hi => (k.2 i hi).trans (h.2 i hi)⟩
/-- The block of claims that may be none. -/
def OfP (p : Option Addr) (k : Nat) : Prop := ∃ b, p = some ⟨b, 0, none⟩ ∧ k = b
theorem CP.same {w V : World} {p : Option Addr} {l : List Cm} (h : CP w p l) (hk : ∀ k, OfP p k → V.heap[k]? = w.heap[k]?) : CP V p l := by
  rcases h with ⟨h1, h2⟩ | ⟨b, rfl, h⟩
  · exact .inl ⟨h1, h2⟩
  · exact .inr ⟨b, rfl, h.1, h.2.1, (hk b ⟨b, rfl, rfl⟩).trans h.2.2⟩
theorem there_at {w : World} {p : Option Addr} {l : List Cm} (h : CP w p l) :
    Calls Try.prog 34 #[.pointer p] w fun e w' => (∃ cap, e = .returned (.slice p l.length cap)) ∧ ∃ k, w' = w.drewN k := by
  rcases h with ⟨rfl, rfl⟩ | ⟨b, rfl, h⟩
  · go_enter Try.func34, Try.ntmps34
    go_wp2
    go_ret
    exact ⟨⟨0, rfl⟩, 0, rfl⟩
  · have cn : w.drew.cell? ⟨b, 32, none⟩ = some (.int .i64 (l.length : Int)) := h.2.count
    have sl := slice_h b l.length h.1.len
    clear h
    generalize l.length = n at *
    go_enter Try.func34, Try.ntmps34
    go_wp2_with fail
    go_region
    go_wp2
    go_ret
    exact ⟨⟨16, rfl⟩, 1, rfl⟩
theorem filter_take {l : List Cm} {f : Cm → Bool} {j : Nat} (hj : j < l.length) : (l.take (j + 1)).filter f = (l.take j).filter f ++ (if f (l.getD j c0) then [l.getD j c0] else []) := by
  rw [take_snoc_m hj, List.filter_append]
  congr 1
  cases h : f (l.getD j c0) with
  | false => rw [if_neg (by decide), List.filter_cons_of_neg (by rw [h]; decide)]; rfl
  | true => rw [if_pos rfl, List.filter_cons_of_pos h]; rfl
theorem filter_pre (l : List Cm) (f : Cm → Bool) (j : Nat) : (l.take j).filter f <+: l.filter f := (List.take_prefix j l).filter f

set_option maxHeartbeats 2000000 in
theorem told_w (n : Nat) (hn : 1 ≤ n) {w : World} {S : Nat → Prop} {p : Option Addr} {bx hx rx : Nat} {l : List Cm} {h r : Int} (hp : CP w p l)
    (hb : w.cell? ⟨bx, 0, none⟩ = some (.pointer p)) (hr : w.cell? ⟨rx, 0, none⟩ = some (.int .i64 r)) (hh : w.cell? ⟨hx, 0, none⟩ = some (.int .i64 h))
    (hS : ∀ k, OfP p k ∨ k = bx ∨ k = rx ∨ k = hx → S k) (hlt : ∀ k, S k → k < w.heap.size) (hr1 : 1 ≤ r) (hr2 : r ≤ 9223372036854775807) :
    TellsW n Try.prog 40 #[.pointer (some ⟨bx, 0, none⟩), .pointer (some ⟨rx, 0, none⟩), .pointer (some ⟨hx, 0, none⟩)] enM (Kept (fun _ => False)) (KpT S)
      (fun xs => xs = ofL l h r) (fun pre x W0 W => pre ++ [x] <+: ofL l h r ∧ Kept (fun _ => False) W0 W) w := by
  intro y J Jx W hW hT hY h0
  have HY' := Lib.hid hY
  have HT' := Lib.hid hT
  have hk0 : KpT S w W := ⟨hW.size, fun k hk => hW.block k (hlt k hk)⟩
  have hok := hp.ok
  have HV : Hid (∀ V, KpT S w V → V.cell? ⟨bx, 0, none⟩ = some (.pointer p) ∧ V.cell? ⟨rx, 0, none⟩ = some (.int .i64 r) ∧ V.cell? ⟨hx, 0, none⟩ = some (.int .i64 h)) :=
    fun V hV => ⟨(World.cell?_of_block (a := ⟨bx, 0, none⟩) (hV.2 bx (hS bx (.inr (.inl rfl))))).trans hb, (World.cell?_of_block (a := ⟨rx, 0, none⟩) (hV.2 rx (hS rx (.inr (.inr (.inl rfl)))))).trans hr, (World.cell?_of_block (a := ⟨hx, 0, none⟩) (hV.2 hx (hS hx (.inr (.inr (.inr rfl)))))).trans hh⟩
  have HG : Hid (∀ V j, KpT S w V → j < l.length → ∃ b, p = some ⟨b, 0, none⟩ ∧ V.cell? ⟨b, j * 2, none⟩ = some (.int .i64 (l.getD j c0).c) ∧ V.cell? ⟨b, j * 2 + 1, none⟩ = some (.int .u32 (l.getD j c0).g)) := by
    intro V j hV hj
    rcases hp.same (fun k hk => hV.2 k (hS k (.inl hk))) with ⟨_, rfl⟩ | ⟨b, rfl, h⟩
    · simp at hj
    · exact ⟨b, rfl, h.cm hj⟩
  have HTh := Lib.hid (there_at (hp.same (fun k hk => hk0.2 k (hS k (.inl hk)))))
  obtain ⟨cx, _, _⟩ := HV.out W hk0
  have HK0 := Lib.hid hk0
  have HSW : Hid (∀ k, S k → k < W.heap.size) := fun k hk => Nat.lt_of_lt_of_le (hlt k hk) hW.size
  clear hW hb hr hh hk0 hp hS hlt
  obtain ⟨P, hP⟩ : ∃ P : Ending → World → Prop, P = fun e W' => (∃ v, e = .returned v) ∧ ((∃ xs : List Cm, xs = ofL l h r ∧ J xs W') ∨ (∃ pre : List Cm, Jx pre W')) := ⟨_, rfl⟩
  have HQ1 : Hid (∀ (xs : List Cm) (W' : World), xs = ofL l h r → J xs W' → P (.returned (.tuple #[])) W') := by
    rw [hP]; exact fun xs W' h1 h2 => ⟨⟨_, rfl⟩, .inl ⟨xs, h1, h2⟩⟩
  have HQ2 : Hid (∀ (xs : List Cm) (W' : World), Jx xs W' → P (.returned (.tuple #[])) W') := by
    rw [hP]; exact fun xs W' h2 => ⟨⟨_, rfl⟩, .inr ⟨xs, h2⟩⟩
  rw [← hP]
  clear hP
  have H0 := Lib.hid h0
  clear h0 hT hY
  refine callsIn_of_wp Try.func40 rfl trivial ?_ rfl
  simp only [Try.ntmps40, List.size_toArray, List.length_cons, List.length_nil, Nat.reduceAdd, Nat.reduceSub, Array.replicate_succ, Array.replicate_zero, List.push_toArray, List.append_toArray, List.nil_append, List.cons_append]
  gi_wp2_with fail
  refine wpIn_wide.2 (wp_scope_straight ((wpIn_wide (n := n)).1 ?_))
  gi_wp2_with fail
  refine wpIn_label ?_
  gi_wp2_with fail
  refine ⟨trivial, (callsIn_wide.2 HTh.out).mono ?_⟩
  rintro e W1 ⟨⟨cap, rfl⟩, k, rfl⟩
  obtain ⟨V1, hV1⟩ : ∃ V1, V1 = W.drewN k := ⟨_, rfl⟩
  have HJ1 : Hid (J [] V1) := HT'.out _ _ _ H0.out (by rw [hV1]; exact (Kept.refl _ W).drewN k)
  have HK1 : Hid (KpT S w V1) := by rw [hV1]; exact HK0.out
  have HS1 : Hid (∀ i, S i → i < V1.heap.size) := by rw [hV1]; exact HSW.out
  rw [← hV1]
  clear hV1 cx HK0 H0 HTh HSW
  obtain ⟨L, hL⟩ : ∃ L, L = l.length := ⟨_, rfl⟩
  have HL := Lib.hid hL
  have hL16 : L ≤ 16 := by have := hok.len; omega
  rw [← hL]
  clear hL
  gi_wp2
  gi_loopw [10] (fun i wr => ∃ (j : Nat) (pre : List Cm), j ≤ L ∧ i = .int .i64 (j : Int) ∧ pre = (l.take j).filter (hmF h r) ∧ J pre wr ∧ KpT S w wr ∧ V1.heap.size ≤ wr.heap.size) (fun i _ => L - (intOf i).toNat)
  case atStart => exact ⟨0, [], by omega, rfl, by simp, HJ1.out, HK1.out, Nat.le_refl _⟩
  case round =>
    obtain ⟨j, pre, hj, rfl, hpre, hJ, hK, hVs⟩ := hrel
    rename World => V
    have HP := Lib.hid hpre
    have HJ := Lib.hid hJ
    have HK := Lib.hid hK
    clear hpre hJ hK
    by_cases h5 : j < L
    · have hjl : j < l.length := by rw [← HL.out]; exact h5
      obtain ⟨g, rfl, e0, e1⟩ := HG.out V j HK.out hjl
      have HFT := Lib.hid (filter_take (f := hmF h r) hjl)
      have HPre := Lib.hid (filter_pre l (hmF h r) (j + 1))
      have hcel := hok.cel _ (getD_mem hjl)
      have d0 : decide ((j : Int) < (L : Int)) = true := by simp; omega
      have j0 : (0 : Int) ≤ (j : Int) := by omega
      have j1 : (j : Int) < (L : Int) := by omega
      generalize l.getD j c0 = x at *
      obtain ⟨xc, xg⟩ := x
      simp only at e0 e1 hcel
      obtain ⟨o, ho⟩ : ∃ o : Obj, o = .cells #[.int .i64 xc, .int .u32 xg] 26 := ⟨_, rfl⟩
      have hKa : Kept (fun _ => False) V (V.alloc o) := (Kept.refl _ V).alloc o
      have HJa := Lib.hid (HT'.out _ _ _ HJ.out hKa)
      have hKw : KpT S w (V.alloc o) := HK.out.trans ⟨hKa.size, fun i hi => hKa.block i (Nat.lt_of_lt_of_le (HS1.out i hi) hVs) id⟩
      have jb := World.alloc_heap_new V o
      obtain ⟨_, f1, f2⟩ := HV.out _ hKw
      have HKw := Lib.hid hKw
      have hsz : V1.heap.size ≤ (V.alloc o).heap.size := by simp; omega
      have f0 : (V.alloc o).cell? ⟨V.heap.size, 0, none⟩ = some (.int .i64 xc) := by rw [ho] at jb ⊢; rw [blk_cell jb]; rfl
      have HB : Hid (∀ V2 : World, V2.heap[V.heap.size]? = (V.alloc o).heap[V.heap.size]? → V2.cell? ⟨V.heap.size, 0, none⟩ = some (.int .i64 xc) ∧ V2.cell? ⟨V.heap.size, 1, none⟩ = some (.int .u32 xg)) := by
        intro V2 h2
        have := h2.trans jb
        rw [ho] at this
        exact ⟨by rw [blk_cell this]; rfl, by rw [blk_cell this]; rfl⟩
      have g0 : 0 ≤ xc := hcel.1
      have g1 : ¬ r = 0 := by omega
      have g2 : (r == 0) = false := by simp; omega
      subst ho
      clear hKw jb
      gi_wp2_with fail
      generalize V.alloc (.cells #[.int .i64 xc, .int .u32 xg] 26) = V2 at *
      gi_region
      have HJd : Hid (J pre V2.drew) := HT'.out _ _ _ HJa.out ((Kept.refl _ V2).drew)
      have hsz2 : V1.heap.size ≤ V2.drew.heap.size := hsz
      have HKd : Hid (KpT S w V2.drew) := HKw.out
      obtain ⟨b0, b1⟩ := HB.out V2.drew rfl
      generalize V2.drew = V3 at *
      clear HB HJa HKw hKa hsz f0 f1 f2
      by_cases hh : xc % r = h
      · have d1 : (xc % r != h) = false := by simp [hh]
        have HS : Hid (pre ++ [⟨xc, xg⟩] = (l.take (j + 1)).filter (hmF h r)) := by
          rw [Hid, HFT.out, HP.out, if_pos (by simpa [hmF] using hh)]
        have hY := HY'.out pre ⟨xc, xg⟩ V3 V3 HJd.out HJd.out ⟨by rw [HS.out]; exact HPre.out, Kept.refl _ _⟩
        obtain ⟨fn, tmps, assign, body, hrun, hR⟩ := hY
        dsimp only [enM, mv] at hrun
        have HRR := Lib.hid hR
        clear hR hh
        generalize pre ++ [(⟨xc, xg⟩ : Cm)] = pre2 at *
        gi_wp2
        refine HRR.out.mono ?_
        rintro e W' (⟨rfl, hJ', hK'⟩ | ⟨rfl, hJx⟩)
        · have HJ2 := Lib.hid hJ'
          have HK2 := Lib.hid (HKd.out.trans hK')
          have hW3 := hK'.1
          clear hJ' hK' hrun HRR
          gi_wp2
          go_roundw
          case rel => exact ⟨j + 1, pre2, by omega, by go_num, HS.out, HJ2.out, HK2.out, Nat.le_trans hsz2 hW3⟩
          case measure => simp [intOf]; omega
        · have HF := Lib.hid (HQ2.out pre2 W' hJx)
          clear hJx hrun HRR
          gi_wp2
          exact bodyPost_ret (results_none rfl _ _ _) rfl HF.out
      · have d1 : (xc % r != h) = true := by simp [hh]
        have HS : Hid (pre = (l.take (j + 1)).filter (hmF h r)) := by
          rw [Hid, HFT.out, HP.out, if_neg (by simpa [hmF] using hh), List.append_nil]
        clear hh
        gi_wp2
        go_roundw
        case rel => exact ⟨j + 1, pre, by omega, by go_num, HS.out, HJd.out, HKd.out, hsz2⟩
        case measure => simp [intOf]; omega
    · obtain rfl : j = L := by omega
      have HF := Lib.hid (HQ1.out pre V (by rw [HP.out, List.take_of_length_le (by rw [← HL.out]; exact Nat.le_refl _)]; rfl) HJ.out)
      have d0 : decide ((j : Int) < (j : Int)) = false := by simp
      gi_wp2
      exact bodyPost_end (results_none rfl _ _ _) rfl HF.out
theorem of_any (w : World) (p : Option Addr) (h r : Int) :
    Calls Try.prog 31 #[.pointer p, .int .i64 h, .int .i64 r] w fun e w' => e = .returned (.func (.func 40) #[] #[.pointer (some ⟨w.heap.size, 0, none⟩), .pointer (some ⟨w.heap.size + 1 + 1, 0, none⟩), .pointer (some ⟨w.heap.size + 1, 0, none⟩)]) ∧
      w' = ((w.alloc (.cells #[.pointer p] 23)).alloc (.cells #[.int .i64 h] 3)).alloc (.cells #[.int .i64 r] 3) := by
  have hmf : ∀ (fn : Fn) (first cap : Array Value) (w : World), (Instr.makeFunc fn first cap).run Try.prog w = .ok (.func fn first cap) w := fun _ _ _ _ => rfl
  go_enter Try.func31, Try.ntmps31
  go_wp2
  go_ret
  refine ⟨?_, rfl⟩
  simp
theorem heap4 (w : World) (o1 o2 o3 o4 : Obj) : ((((w.alloc o1).alloc o2).alloc o3).alloc o4).heap[w.heap.size]? = some o1 ∧ ((((w.alloc o1).alloc o2).alloc o3).alloc o4).heap[w.heap.size + 1]? = some o2 ∧ ((((w.alloc o1).alloc o2).alloc o3).alloc o4).heap[w.heap.size + 1 + 1]? = some o3 ∧ ((((w.alloc o1).alloc o2).alloc o3).alloc o4).heap[w.heap.size + 1 + 1 + 1]? = some o4 := by
  refine ⟨?_, ?_, ?_, ?_⟩
  · rw [Below.heap_alloc _ _ _ (by simp only [World.size_alloc]; omega), Below.heap_alloc _ _ _ (by simp only [World.size_alloc]; omega), Below.heap_alloc _ _ _ (by simp only [World.size_alloc]; omega)]
    exact World.alloc_heap_new w _
  · rw [Below.heap_alloc _ _ _ (by simp only [World.size_alloc]; omega), Below.heap_alloc _ _ _ (by simp only [World.size_alloc]; omega)]
    have := World.alloc_heap_new (w.alloc o1) o2
    rwa [World.size_alloc] at this
  · rw [Below.heap_alloc _ _ _ (by simp only [World.size_alloc]; omega)]
    have := World.alloc_heap_new ((w.alloc o1).alloc o2) o3
    rwa [World.size_alloc, World.size_alloc] at this
  · have := World.alloc_heap_new (((w.alloc o1).alloc o2).alloc o3) o4
    rwa [World.size_alloc, World.size_alloc, World.size_alloc] at this
/-- A list of claims that is told: new memory. -/
def CmP (w : World) (l : List Cm) (x : Ending) (w' : World) : Prop :=
  ∃ v, x = .returned v ∧ w'.ownsRow w.heap.size 26 2 v l.length (csM l) ∧ Below w.heap.size w w'
theorem ofL_len (l : List Cm) (h r : Int) : (ofL l h r).length ≤ l.length := List.length_filter_le _ _

set_option maxHeartbeats 4000000 in
theorem home_yes {w : World} {p : Option Addr} {l : List Cm} (hp : CP w p l) {h r : Int} (hr1 : 1 ≤ r) (hr2 : r ≤ 9223372036854775807) :
    Calls Try.prog 13 #[.pointer p, .int .i64 h, .int .i64 r] w (CmP w (ofL l h r)) := by
  obtain ⟨i0, hi, hz0, hz1, hz2⟩ := info_parts Try.infoCm3
  have hl16 := hp.ok.len
  have hol : ∀ k, OfP p k → k < w.heap.size := by
    rintro k ⟨b, rfl, rfl⟩
    rcases hp with ⟨e, _⟩ | ⟨b', e, hc⟩
    · cases e
    · cases e; exact hc.lt
  have d0 : decide (r < 1) = false := by simp; omega
  refine (callsIn_wide (n := 9)).1 ?_
  refine callsIn_of_wp_marks Try.func13 rfl trivial ?_ rfl
  simp only [Try.ntmps13, List.size_toArray, List.length_cons, List.length_nil, Nat.reduceAdd, Nat.reduceSub, Array.replicate_succ, Array.replicate_zero, List.push_toArray, List.append_toArray, List.nil_append, List.cons_append]
  have HH := Lib.hid hp
  clear hp
  gi_wp2_with fail
  refine ⟨trivial, (callsIn_wide.2 (of_any _ _ _ _)).mono ?_⟩
  rintro x W0 ⟨rfl, hW0⟩
  have hz : W0.heap.size = w.heap.size + 4 := by rw [hW0]; simp
  have hk0 : Kept (fun _ => False) w W0 := by rw [hW0]; exact ((((Kept.refl _ w).alloc _).alloc _).alloc _).alloc _
  obtain ⟨b1, b2, b3, b4⟩ := heap4 w (.cells #[.slice none 0 0] 42) (.cells #[.pointer p] 23) (.cells #[.int .i64 h] 3) (.cells #[.int .i64 r] 3)
  rw [← hW0] at b1 b2 b3 b4
  have c2 : W0.cell? ⟨w.heap.size + 1, 0, none⟩ = some (.pointer p) := by rw [blk_cell b2]; rfl
  have c3 : W0.cell? ⟨w.heap.size + 1 + 1, 0, none⟩ = some (.int .i64 h) := by rw [blk_cell b3]; rfl
  have c4 : W0.cell? ⟨w.heap.size + 1 + 1 + 1, 0, none⟩ = some (.int .i64 r) := by rw [blk_cell b4]; rfl
  have hsz1 : (w.alloc (.cells #[.slice none 0 0] 42)).heap.size = w.heap.size + 1 := by simp
  rw [hsz1]
  clear hW0 hsz1 b2 b3 b4
  have hq0 : CP W0 p l := HH.out.same (fun k hk => hk0.block k (hol k hk) id)
  obtain ⟨q, hq⟩ : ∃ q, q = w.heap.size := ⟨_, rfl⟩
  obtain ⟨X, hX⟩ : ∃ X : Nat → Prop, X = fun k => k = q := ⟨_, rfl⟩
  obtain ⟨S, hS⟩ : ∃ S : Nat → Prop, S = fun k => OfP p k ∨ k = w.heap.size + 1 ∨ k = w.heap.size + 1 + 1 + 1 ∨ k = w.heap.size + 1 + 1 := ⟨_, rfl⟩
  have HSF : Hid (∀ k, S k → k < W0.heap.size ∧ ¬ X k) := by
    intro k hk
    rw [hS] at hk
    rw [hX, hq]
    rcases hk with hk | hk
    · have := hol k hk; exact ⟨by omega, by omega⟩
    · exact ⟨by omega, by omega⟩
  have hTells := told_w (9 - 1) (by omega) hq0 c2 c4 c3 (S := S) (fun k hk => by rw [hS]; exact hk) (fun k hk => (HSF.out k hk).1) hr1 hr2
  have hqF : q < W0.heap.size := by omega
  have hXq : X q := by rw [hX]
  have h00 : LM W0.heap.size q X W0 [] W0 := ⟨⟨_, by rw [hq]; exact b1, ⟨by simp [csM], .inl ⟨rfl, rfl⟩⟩⟩, Kept.refl _ _⟩
  have HD : Hid (∀ W', LM W0.heap.size q X W0 (ofL l h r) W' → CmP w (ofL l h r) (.returned ((W'.cell? ⟨q, 0, none⟩).getD undef)) W') := by
    rintro W' ⟨⟨v, h1, h2⟩, h3⟩
    refine ⟨v, by rw [blk_cell h1]; rfl, ⟨?_, ?_⟩⟩
    · refine ⟨h2.1, ?_⟩
      rcases h2.2 with h | ⟨g', cap, cur, e1, e2, e3⟩
      · exact .inl h
      · exact .inr ⟨g', cap, cur, e1, by omega, e3⟩
    · refine (hk0.mono (Y := X) (fun _ _ h => h.elim)).trans h3 (fun _ _ h => h) |>.below (fun k hk => ?_) (Nat.le_refl _)
      rw [hX] at hk; omega
  have HLn := Lib.hid (ofL_len l h r)
  clear hS
  subst hq
  gi_wp2_with fail
  refine range_w (by omega) (gf := 40) (lb := #[.pointer (some ⟨w.heap.size + 1, 0, none⟩), .pointer (some ⟨w.heap.size + 1 + 1 + 1, 0, none⟩), .pointer (some ⟨w.heap.size + 1 + 1, 0, none⟩)]) rfl (enters_of Try.func40 (by kernel_rfl) rfl)
    (encs := enM) (fun _ => rfl) hTells (Below.refl _ _)
    (fun A C ht => ⟨ht.size, fun k o _ ho hc => (ht.block k (blk_lt ho) id).trans ho⟩) (fun h k => h.trans k)
    (fun W l' o o' hl' h1 h2 => ⟨by simp [World.putObj], fun i hi => World.putObj_heap_other (by have := (HSF.out i hi).1; omega)⟩)
    (LM W0.heap.size w.heap.size X W0) (fun _ _ _ => False) (fun pre W W' row h hg hr => h.step rfl hqF hg hr) (fun c xs A C row h _ _ => h.elim) (fun xs A C h ht => h.take ht) h00
    (fun pre x a' W => ∃ bk, W0.heap.size ≤ bk ∧ W.heap[bk]? = some (.cells #[.int .i64 x.c, .int .u32 x.g] 26 (0, 0)) ∧ pre ++ [x] <+: ofL l h r ∧ a' = { tmps := #[.pointer p, .int .i64 h, .int .i64 r, undef, undef, undef, .slice none 0 0, .pointer (some ⟨w.heap.size, 0, none⟩), .pointer (some ⟨bk, 0, none⟩), .int .i64 r, .bool false, .pointer p, .int .i64 h, .int .i64 r, .func (.func 40) #[] #[.pointer (some ⟨w.heap.size + 1, 0, none⟩), .pointer (some ⟨w.heap.size + 1 + 1 + 1, 0, none⟩), .pointer (some ⟨w.heap.size + 1 + 1, 0, none⟩)], mv x, undef, undef, undef, undef, undef], defers := [] })
    ?hAx ?assign ?body ?done ?stop
  case hAx =>
    rintro pre x a' _ W W' row ⟨bk, h1, h2, h3, h4⟩ hg hr
    refine ⟨bk, h1, (hg.block bk (blk_lt h2) (fun e => ?_)).trans h2, h3, h4⟩
    obtain ⟨_, o1, h4, h5⟩ := hr bk e.symm
    rw [h2] at h4
    cases h4
    cases h5
  case assign =>
    intro l' pre x Wb W K hIb hI hpp hK
    have hsz : W0.heap.size ≤ W.heap.size := hI.kp.size
    obtain ⟨c1, g1⟩ := x
    simp only [enM, mv] at *
    have HK := hK { tmps := #[.pointer p, .int .i64 h, .int .i64 r, undef, undef, undef, .slice none 0 0, .pointer (some ⟨w.heap.size, 0, none⟩), .pointer (some ⟨W.heap.size, 0, none⟩), .int .i64 r, .bool false, .pointer p, .int .i64 h, .int .i64 r, .func (.func 40) #[] #[.pointer (some ⟨w.heap.size + 1, 0, none⟩), .pointer (some ⟨w.heap.size + 1 + 1 + 1, 0, none⟩), .pointer (some ⟨w.heap.size + 1 + 1, 0, none⟩)], .agg #[.int .i64 c1, .int .u32 g1], undef, undef, undef, undef, undef], defers := [] } (W.alloc (.cells #[.int .i64 c1, .int .u32 g1] 26))
      ⟨by simp, fun k o hk ho hc => (Below.heap_alloc _ _ _ (blk_lt ho)).trans ho⟩ ⟨by simp, fun k hk => Below.heap_alloc _ _ _ (by have := (HSF.out k hk).1; omega)⟩ (hI.take ((Kept.refl _ W).alloc _)) ⟨W.heap.size, hsz, World.alloc_heap_new _ _, hpp.1, rfl⟩
    clear hK hI hIb hpp
    gi_wp2
    exact HK
  case body =>
    rintro l' pre x a' W hl' ⟨⟨v1, h1, h2⟩, h4⟩ ⟨bk, hbk, hbx, hpp, rfl⟩
    have c5 : W.cell? ⟨w.heap.size, 0, none⟩ = some v1 := by rw [blk_cell h1]; rfl
    have q0 : W.cell? ⟨bk, 0, none⟩ = some (.int .i64 x.c) := by rw [blk_cell hbx]; rfl
    have q1 : W.cell? ⟨bk, 1, none⟩ = some (.int .u32 x.g) := by rw [blk_cell hbx]; rfl
    obtain ⟨N, hN⟩ : ∃ N, N = pre.length := ⟨_, rfl⟩
    have hNb : N ≤ 16 := by have := hpp.length_le; have := HLn.out; rw [List.length_append] at *; simp at *; omega
    have hWs : W0.heap.size ≤ W.heap.size := h4.size
    have HV : Hid (W.ownsRow W0.heap.size 26 2 v1 N (csM pre)) := by show World.ownsRow _ _ _ _ _ _ _; rw [hN]; exact h2
    have HN : Hid (∀ W2 v', (W.alloc (.cells #[.int .i64 x.c, .int .u32 x.g] 26)).grownBy W2 v1.ownBlock → W2.ownsRow W0.heap.size 26 2 v' (N + 1) (csM pre ++ mc x) →
        (W2.cell? ⟨w.heap.size, 0, none⟩ = some v1 ∧ W2.frozen? ⟨w.heap.size, 0, none⟩ = false) ∧ ownPostG W0.heap.size (KpT S) (LM W0.heap.size w.heap.size X W0) (fun _ _ _ => False) (pre ++ [x]) W .normal { tmps := #[], defers := [] } (W2.setCell ⟨w.heap.size, 0, none⟩ v')) := by
      intro W2 v' hg ho'
      rw [hN] at ho'
      have := LM.snoc rfl hqF hXq h1 h2 h4 hg ho'
      refine ⟨this.1, this.2.1, ⟨this.2.1.size, fun k hk => this.2.2.1 k (HSF.out k hk).1 (HSF.out k hk).2⟩, this.2.2.2⟩
    have HNe := Lib.hid (World.news_of_block (World.alloc_heap_new W (.cells #[.int .i64 x.c, .int .u32 x.g] 26)))
    clear h1 h2 h4 hN hpp hz hX hTells h00 hqF hXq hl' hbx hbk
    simp only [mv, mc] at *
    generalize x.c = x0 at *
    generalize x.g = x1 at *
    generalize csM pre = ys at *
    gi_wp2_with (gi_at_builtin; refine wpListIn_append_own_at _ rfl _ _ 42 rfl W0.heap.size 26 i0 (.agg #[.int .i64 0, .int .u32 0]) 2 16 Try.underlying42 hi hz0 hz1 hz2 rfl (by decide) _ N _ rfl (HV.out.alloc _) ⟨W.heap.size, 0, none⟩ 1 1 [.int .i64 x0, .int .u32 x1] rfl rfl HNe.out (by intro u hu; simp at hu; rcases hu with rfl | rfl <;> rfl) (by unfold maxLen; omega) (by omega) (by simp; omega) ?_; intro v' W2 hown' hgrow _ hat; obtain ⟨g', cap', rfl⟩ := ownsRow_succ hown'; obtain ⟨⟨hq1, hq2⟩, hq3⟩ := HN.out _ _ hgrow hown'; have HZ := Lib.hid hq3; clear hown' hgrow hq3 hat)
    exact HZ.out
  case done =>
    rintro D xs W hD rfl hI hK
    have hI2 := hI.step (W2 := W.putObj D (.deferred none)) rfl hqF (grownBy_putObj' W D (.deferred none)) (fun r e => by cases e; exact ⟨hD, _, hK, rfl⟩)
    have HQ := Lib.hid (HD.out _ hI2)
    obtain ⟨⟨v, h1, h2⟩, h3⟩ := hI
    have c5 : W.cell? ⟨w.heap.size, 0, none⟩ = some v := by rw [blk_cell h1]; rfl
    have c6 : (W.putObj D (.deferred none)).cell? ⟨w.heap.size, 0, none⟩ = some v := by
      have : (W.putObj D (.deferred none)).heap[w.heap.size]? = W.heap[w.heap.size]? := World.putObj_heap_other (by omega)
      exact (World.cell?_of_block this).trans c5
    have HQ2 : Hid (CmP w (ofL l h r) (.returned v) (W.putObj D (.deferred none))) := by
      have := HQ.out
      rw [c6] at this
      exact this
    clear HQ h1 h2 h3 hI2 hTells h00
    gi_wp2
    refine ⟨by simp, .inl ⟨_, _, rfl, run_takeDeferred hK, ?_⟩⟩
    refine ⟨v, ?_, HQ2.out⟩
    exact (results_tmp (fn := Try.f13) (t := 6) rfl _ _ _)
  case stop =>
    rintro D c xs W hD hI hK
    exact hI.elim
/-- What Of tells. -/
def Cl.ofZ (l : List Cm) (h r : Int) : List Cm := if r < 1 then [] else ofL l h r
theorem home_any {w : World} {p : Option Addr} {l : List Cm} (hp : CP w p l) {h r : Int} (hr2 : r ≤ 9223372036854775807) :
    Calls Try.prog 13 #[.pointer p, .int .i64 h, .int .i64 r] w (CmP w (ofZ l h r)) := by
  unfold ofZ
  by_cases hr : r < 1
  · rw [if_pos hr]
    have d0 : decide (r < 1) = true := by simp; omega
    go_enter Try.func13, Try.ntmps13
    go_wp2
    go_ret
    exact ⟨_, rfl, World.ownsRow_nil _ _ _ _, Below.refl _ _⟩
  · rw [if_neg hr]
    exact home_yes hp (by omega) hr2
end Go.Proofs.Ytijhkjegpcmjoaa
