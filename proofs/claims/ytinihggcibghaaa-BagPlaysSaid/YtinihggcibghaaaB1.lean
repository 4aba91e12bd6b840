/-
  A bag's Len; a packet like another; the iterator over a bag.
-/
import Derived.Test.YtinihggcibghaaaB0
import Derived.RangeFuncNested
import Derived.RangeFuncBound
import Derived.RangeFuncCalls
import Derived.RangeFuncLeaves
import Derived.Shelf.Abstract
import Derived.Shelf.RegionOpen
import Derived.OwnWalkIn
import Derived.TacticsInMore
import Derived.LoopNIn
import Derived.LoopIn
import Derived.Deep.QuietTactic
import Derived.BigQuiet
import Derived.Sort.QuietIn
import Derived.Stop.RegionWithIn
import Derived.Lib.SliceRun
namespace Go.Proofs.Ytinihggcibghaaa
set_option maxRecDepth 100000
set_option linter.unusedSimpArgs false
open Go Go.RowKit Bg
attribute [local go_sem] Oper.semAt_some

theorem Try.infoU8 : (Try.prog.info? 5).map (fun i => (i.zero, i.size, i.bytes)) = some (some (.int .u8 0), 1, 1) := by kernel_rfl
theorem Try.infoFl : (Try.prog.info? 38).map (fun i => (i.zero, i.size, i.bytes)) = some (some (.agg #[.int .i64 0, .int .i64 0, .int .i64 0, .slice none 0 0, .bool false]), 5, 56) := by kernel_rfl

theorem len_none (w : World) : Calls Try.prog 17 #[.pointer none] w fun e w' => e = .returned (.int .i64 0) ∧ w = w' := by
  go_enter Try.func17, Try.ntmps17
  go_wp2
  go_ret
  exact ⟨rfl, rfl⟩
theorem len_any {w : World} {S : Nat → Prop} {o : Nat} {b : St} (h : BagAt 29 w S o b) : Calls Try.prog 17 #[.pointer (some ⟨o, 0, none⟩)] w fun e w' => e = .returned (.int .i64 (b.l.length : Nat)) ∧ w = w' := by
  obtain ⟨⟨v, E, hE, ho, hw⟩, _, _⟩ := h
  obtain ⟨A, cap, rfl, _⟩ := hw.form
  have hlen : E.length = b.l.length := by rw [← hE]; simp
  rw [hlen] at ho
  have c0 := blk_cell ho 0
  simp at c0
  clear hw hE ho hlen
  go_enter Try.func17, Try.ntmps17
  go_wp2
  go_ret
  exact ⟨rfl, rfl⟩

/-- slices.Clone of bytes: of a block of its own. -/
theorem clone_any {w : World} {A : Option Addr} {l : List Nat} {cap : Nat} (h : BytesAt w A l) (hA : A = none → l = [] ∧ cap = 0) (hl : l.length ≤ 100000) :
    Calls Try.prog 48 #[.slice A l.length cap] w fun e w' => ∃ v', e = .returned v' ∧ w'.ownsRow w.heap.size 5 1 v' l.length (l.map byV) ∧ Below w.heap.size w w' := by
  obtain ⟨i0, hi, hz0, hz1, hz2⟩ := info_parts Try.infoU8
  have q34 : ∀ (w : World) (a : Option Addr) (n c n' c' : Nat), (binOp .eql 34 (.slice a n c) (.slice none n' c')).run Try.prog w = .ok (.bool a.isNone) w := fun w a n c n' c' => Lib.run_eql_slice_nil w _ _ a n c n' c' Try.underlying34
  cases A with
  | none =>
    obtain ⟨rfl, rfl⟩ := hA rfl
    clear h hA
    go_enter Try.func48, Try.ntmps48
    go_wp2
    go_ret
    exact ⟨_, rfl, World.ownsRow_nil _ _ _ _, Below.refl _ _⟩
  | some ad =>
    have H : Hid (∀ j u, (l.map byV)[j]? = some u → w.cell? (ad.add j) = some u) := by
      intro j u hu
      have hj : j < l.length := by
        rcases Nat.lt_or_ge j l.length with h | h
        · exact h
        · rw [List.getElem?_eq_none (by simpa using h)] at hu; cases hu
      obtain ⟨a', e1, h2⟩ := h j hj
      cases e1
      rw [h2, ← hu]
      simp [List.getD, hj]
    clear h hA
    have h1 := byV_one l
    have hlm : (l.map byV).length = l.length * 1 := by simp
    generalize l.map byV = xs at *
    generalize l.length = n at *
    go_enter Try.func48, Try.ntmps48
    go_wp2_with (at_builtin; refine wpList_append_own _ rfl _ _ 34 rfl w.heap.size 5 i0 (.int .u8 0) 1 1 Try.underlying34 hi hz0 hz1 hz2 rfl (by decide) _ _ _ rfl (World.ownsRow_made w #[] 0 (Nat.le_refl _) (Nat.zero_le _) (by simp)) ad n cap xs rfl ?qc1 ?qc2 ?qc3 ?qc4 ?qc5 ?qc6 ?_)
    case qc1 => exact hlm
    case qc2 =>
      intro j u hj
      exact Lib.cell?_alloc_some _ (H.out j u hj)
    case qc3 => exact h1
    case qc4 => unfold maxLen; omega
    case qc5 => omega
    case qc6 => simp
    intro v' w1 hown hgrow _
    go_wp2
    go_ret
    exact ⟨v', rfl, by simpa using hown, ((Below.refl _ w).alloc (Nat.le_refl _) _).grown hgrow (by simp) (by intro k hk; simp [Value.ownBlock] at hk; omega)⟩

set_option maxHeartbeats 1000000 in
/-- A packet like another, its bytes its own. -/
theorem like_any {w : World} (x : Fl) {A : Option Addr} {cap : Nat} (h : BytesAt w A x.d) (hA : A = none → x.d = [] ∧ cap = 0) (hl : x.d.length ≤ 100000) :
    Calls Try.prog 40 #[flA x (.slice A x.d.length cap)] w fun e w' => ∃ v', e = .returned (flA x v') ∧ w'.ownsRow w.heap.size 5 1 v' x.d.length (x.d.map byV) ∧ Below w.heap.size w w' := by
  obtain ⟨P, hP⟩ : ∃ P : Ending → World → Prop, P = fun e w' => ∃ v', e = .returned (flA x v') ∧ w'.ownsRow w.heap.size 5 1 v' x.d.length (x.d.map byV) ∧ Below w.heap.size w w' := ⟨_, rfl⟩
  have HP : Hid (∀ v' w', w'.ownsRow (w.heap.size + 2) 5 1 v' x.d.length (x.d.map byV) → Below w.heap.size w w' → P (.returned (.agg #[.int .i64 x.n, .int .i64 x.f, .int .i64 x.t, v', .bool x.s])) w') := by
    rw [hP]; intro v' w' h1 h2; exact ⟨_, rfl, row_base h1 (by omega), h2⟩
  rw [← hP]
  clear hP
  have HC : Hid (∀ t t' c c', Calls Try.prog 48 #[.slice A x.d.length cap] ((w.alloc (.cells c t)).alloc (.cells c' t')) fun e w' => ∃ A' cap', e = .returned (.slice A' x.d.length cap') ∧ Below (w.heap.size + 2) ((w.alloc (.cells c t)).alloc (.cells c' t')) w' ∧ w'.ownsRow (w.heap.size + 2) 5 1 (.slice A' x.d.length cap') x.d.length (x.d.map byV)) := by
    intro t t' c c'
    have hb : BytesAt ((w.alloc (.cells c t)).alloc (.cells c' t')) A x.d := h.below (((Below.refl _ w).alloc (Nat.le_refl _) _).alloc (by simp) _)
    refine (clone_any hb hA hl).mono ?_
    rintro e w' ⟨v', rfl, h1, h2⟩
    simp only [World.size_alloc] at h1 h2
    obtain ⟨A', cap', rfl, _⟩ := row_bytes h1
    exact ⟨A', cap', rfl, h2, h1⟩
  clear h hA hl
  obtain ⟨n, f, t, d, s⟩ := x
  show Calls _ _ #[.agg #[.int .i64 n, .int .i64 f, .int .i64 t, .slice A d.length cap, .bool s]] _ _
  simp only at HC HP
  generalize d.map byV = xs at *
  generalize d.length = L at *
  go_enter Try.func40, Try.ntmps40
  go_wp2_with fail
  refine (HC.out _ _ _ _).mono ?_
  rintro e w1 ⟨A', cap', rfl, hb1, hr1⟩
  obtain ⟨g1, g2, c2, hz⟩ : w1.heap[w.heap.size]? = some (.cells #[.int .i64 n, .int .i64 f, .int .i64 t, .slice A L cap, .bool s] 38 (0, 0)) ∧ w1.heap[w.heap.size + 1]? = some (.cells #[.int .i64 0, .int .i64 0, .int .i64 0, .slice none 0 0, .bool false] 38 (0, 0)) ∧ Below w.heap.size w w1 ∧ w.heap.size + 2 ≤ w1.heap.size := by
    refine ⟨?_, ?_, (((Below.refl _ w).alloc (Nat.le_refl _) _).alloc (by simp) _).trans (hb1.mono (by omega)), by simpa using hb1.size⟩
    · rw [hb1.block _ (by omega), Below.heap_alloc _ _ _ (by simp)]; exact World.alloc_heap_new w _
    · rw [hb1.block _ (by omega)]
      have := World.alloc_heap_new (w.alloc (.cells #[.int .i64 n, .int .i64 f, .int .i64 t, .slice A L cap, .bool s] 38)) (.cells #[.int .i64 0, .int .i64 0, .int .i64 0, .slice none 0 0, .bool false] 38)
      rw [World.size_alloc] at this
      exact this
  obtain ⟨⟨a0, a1, a2, a3, a4⟩, d0, d1, d2, d3, d4⟩ := five g1
  obtain ⟨⟨b0, b1, b2, b3, b4⟩, e0, e1, e2, e3, e4⟩ := five g2
  clear g1 g2
  go_wp2
  refine bodyPost_ret (v := .agg #[.int .i64 n, .int .i64 f, .int .i64 t, .slice A' L cap', .bool s]) (by simp [results, Try.results40, go_sem, b0, b1, b2, b3, b4]) rfl (HP.out _ _ ?_ ?_)
  · iterate 6 refine ownsRow_setCell_below ?_ (by simp) _
    exact hr1
  · iterate 6 refine Below.setCell ?_ (by simp) _
    exact c2

/-- What is told of a bag: places and packets. -/
def enB (x : Nat × Ent) : Array Value := #[.int .i64 (x.1 : Nat), flA x.2.1 (Ent.v x.2)]
def tel (E : List Ent) : List (Nat × Ent) := (List.range E.length).map fun i => (i, E.getD i noE)
theorem tel_length (E : List Ent) : (tel E).length = E.length := by simp [tel]
theorem tel_take (E : List Ent) {j : Nat} (hj : j < E.length) : (tel E).take (j + 1) = (tel E).take j ++ [(j, E.getD j noE)] := by
  rw [List.take_add_one]
  congr 1
  rw [List.getElem?_eq_getElem (by rw [tel_length]; exact hj)]
  simp [tel]
/-- What a round keeps. -/
def KpB (o bx : Nat) (v : Value) (A B : World) : Prop := ∀ k, (k = o ∨ k = bx ∨ v.ownBlock = some k) → B.heap[k]? = A.heap[k]?
theorem KpB.trans {o bx : Nat} {v : Value} {A B C : World} (h : KpB o bx v A B) (k : KpB o bx v B C) : KpB o bx v A C := fun i hi => (k i hi).trans (h i hi)

def placedW (w : World) (p : Value) : World := w.alloc (.cells #[p] 24)
theorem placed_any (w : World) (p : Option Addr) :
    Calls Try.prog 41 #[.pointer p] w fun e w' => e = .returned (.func (.func 49) #[] #[.pointer (some ⟨w.heap.size, 0, none⟩)]) ∧ w' = placedW w (.pointer p) := by
  go_enter Try.func41, Try.ntmps41
  go_wp2
  go_ret
  exact ⟨rfl, rfl⟩
theorem placedW_cell (w : World) (p : Value) : (placedW w p).cell? ⟨w.heap.size, 0, none⟩ = some p := by rw [placedW, blk_cell (World.alloc_heap_new w _)]; rfl
theorem placedW_size (w : World) (p : Value) : (placedW w p).heap.size = w.heap.size + 1 := by simp [placedW]
theorem placedW_below (w : World) (p : Value) : Below w.heap.size w (placedW w p) := (Below.refl _ w).alloc (Nat.le_refl _) _

set_option maxHeartbeats 2000000 in
theorem placed_stops (n : Nat) (hn : 1 ≤ n) {w : World} {S : Nat → Prop} {o bx : Nat} {b : St} {v : Value} {E : List Ent} (hE : E.map (·.1) = b.l) (hl : b.l.length ≤ 256) (ho : w.heap[o]? = some (.cells (objC v b) 29 (0, 0))) (hw : Own w S o v E) (hx : w.cell? ⟨bx, 0, none⟩ = some (.pointer (some ⟨o, 0, none⟩))) :
    SeqStopsK Fence.wide n Try.prog 49 #[.pointer (some ⟨bx, 0, none⟩)] enB (KpB o bx v)
      (fun xs => xs = tel E) (fun pre => pre <+: tel E) 256 w := by
  intro l J Jx W hW hJ hJx hY h0
  have HY' := Lib.hid hY
  obtain ⟨A, cap, rfl, hcap, hmx, hA⟩ := hw.form
  have hlen : E.length = b.l.length := by rw [← hE]; simp
  have hobl := blk_lt ho
  have hxbl := World.block_lt_of_cell? w _ hx
  have hk0 : KpB o bx (.slice A E.length cap) w W := by
    intro k hk
    refine hW.block k ?_
    rcases hk with rfl | rfl | hk
    · exact hobl
    · exact hxbl
    · exact (hw.row.lt k hk).2
  have HL : Hid (∀ V, KpB o bx (.slice A E.length cap) w V → Calls Try.prog 17 #[.pointer (some ⟨o, 0, none⟩)] V fun e w' => e = .returned (.int .i64 (E.length : Nat)) ∧ V = w') := by
    intro V hV
    have ho' : V.heap[o]? = _ := (hV o (.inl rfl)).trans ho
    clear ho hw hk0 hY hJ hJx HY' hV
    obtain ⟨⟨c0, _⟩, _⟩ := eight ho'
    clear ho'
    go_enter Try.func17, Try.ntmps17
    go_wp2
    go_ret
    exact ⟨rfl, rfl⟩
  have HV : Hid (∀ V, KpB o bx (.slice A E.length cap) w V → V.cell? ⟨bx, 0, none⟩ = some (.pointer (some ⟨o, 0, none⟩)) ∧ V.cell? ⟨o, 0, none⟩ = some (.slice A E.length cap)) := by
    intro V hV
    refine ⟨(World.cell?_of_block (a := ⟨bx, 0, none⟩) (hV bx (.inr (.inl rfl)))).trans hx, ?_⟩
    rw [World.cell?_of_block (a := ⟨o, 0, none⟩) (hV o (.inl rfl)), blk_cell ho]; rfl
  have HG : Hid (∀ V j, KpB o bx (.slice A E.length cap) w V → j < E.length → ∃ g, A = some ⟨g, 0, none⟩ ∧ V.cell? ⟨g, j * 5, none⟩ = some (.int .i64 (E.getD j noE).1.n) ∧ V.cell? ⟨g, j * 5 + 1, none⟩ = some (.int .i64 (E.getD j noE).1.f) ∧ V.cell? ⟨g, j * 5 + 2, none⟩ = some (.int .i64 (E.getD j noE).1.t) ∧ V.cell? ⟨g, j * 5 + 3, none⟩ = some (Ent.v (E.getD j noE)) ∧ V.cell? ⟨g, j * 5 + 4, none⟩ = some (.bool (E.getD j noE).1.s)) := by
    intro V j hV hj
    obtain ⟨g, rfl⟩ := hA (by omega)
    have hg := hV g (.inr (.inr rfl))
    obtain ⟨q0, q1, q2, q3, q4⟩ := hw.cells hj
    exact ⟨g, rfl, (World.cell?_of_block (a := ⟨g, _, none⟩) hg).trans q0, (World.cell?_of_block (a := ⟨g, _, none⟩) hg).trans q1, (World.cell?_of_block (a := ⟨g, _, none⟩) hg).trans q2, (World.cell?_of_block (a := ⟨g, _, none⟩) hg).trans q3, (World.cell?_of_block (a := ⟨g, _, none⟩) hg).trans q4⟩
  obtain ⟨cx, _⟩ := HV.out W hk0
  have HLW := Lib.hid (HL.out W hk0)
  have HK0 := Lib.hid hk0
  have hE256 : E.length ≤ 256 := by omega
  have HT := Lib.hid (fun j (hj : j < E.length) => tel_take E hj)
  have HTL := Lib.hid (tel_length E)
  clear hW hJ hJx hY hx ho hw hobl hxbl hk0 hlen hE hl hA hmx
  obtain ⟨P, hP⟩ : ∃ P : Ending → World → Prop, P = fun e W' => (∃ v, e = .returned v) ∧ ((∃ xs : List (Nat × Ent), xs = tel E ∧ J xs W') ∨ (∃ pre : List (Nat × Ent), pre <+: tel E ∧ Jx pre W')) := ⟨_, rfl⟩
  have HQ1 : Hid (∀ (xs : List (Nat × Ent)) (W' : World), xs = tel E → J xs W' → P (.returned (.tuple #[])) W') := by
    rw [hP]; exact fun xs W' h1 h2 => ⟨⟨_, rfl⟩, .inl ⟨xs, h1, h2⟩⟩
  have HQ2 : Hid (∀ (xs : List (Nat × Ent)) (W' : World), xs <+: tel E → Jx xs W' → P (.returned (.tuple #[])) W') := by
    rw [hP]; exact fun xs W' h1 h2 => ⟨⟨_, rfl⟩, .inr ⟨xs, h1, h2⟩⟩
  rw [← hP]
  clear hP
  have H0 := Lib.hid h0
  clear h0
  obtain ⟨L, hL⟩ : ∃ L, L = E.length := ⟨_, rfl⟩
  rw [← hL] at HL HV HG HLW HK0 hE256 HT HTL hcap
  refine callsIn_of_wp Try.func49 rfl trivial ?_ rfl
  simp only [Try.ntmps49, List.size_toArray, List.length_cons, List.length_nil, Nat.reduceAdd, Nat.reduceSub, Array.replicate_succ, Array.replicate_zero, List.push_toArray, List.append_toArray, List.nil_append, List.cons_append]
  gi_wp2_with fail
  refine ⟨trivial, (callsIn_wide.2 HLW.out).mono ?_⟩
  rintro e w' ⟨rfl, rfl⟩
  gi_wp2
  gi_loopw [6] (fun i wr => ∃ (j : Nat) (pre : List (Nat × Ent)), j ≤ L ∧ i = .int .i64 (j : Int) ∧ pre = (tel E).take j ∧ J pre wr ∧ KpB o bx (.slice A L cap) w wr) (fun i _ => L - (intOf i).toNat)
  case atStart => exact ⟨0, [], by omega, rfl, by simp, H0.out, HK0.out⟩
  case round =>
    obtain ⟨j, pre, hj, rfl, hpre, hJ, hK⟩ := hrel
    rename World => V
    have HP := Lib.hid hpre
    have HJ := Lib.hid hJ
    have HK := Lib.hid hK
    obtain ⟨e1, e2⟩ := HV.out V hK
    clear hpre hJ hK
    by_cases h5 : j < L
    · obtain ⟨g, hA, q0, q1, q2, q3, q4⟩ := HG.out V j HK.out h5
      have hY := HY'.out pre (j, E.getD j noE) V HJ.out (by rw [HP.out, List.length_take]; omega)
      have HS : Hid (pre ++ [(j, E.getD j noE)] = (tel E).take (j + 1)) := by
        rw [Hid, HT.out j h5, HP.out]
      obtain ⟨fn, tmps, assign, body, hrun, hR⟩ := hY
      dsimp only [enB, flA] at hrun
      have HRR := Lib.hid hR
      clear hR
      subst hA
      generalize pre ++ [(j, E.getD j noE)] = pre2 at *
      generalize (E.getD j noE).1.n = x0 at *
      generalize (E.getD j noE).1.f = x1 at *
      generalize (E.getD j noE).1.t = x2 at *
      generalize (E.getD j noE).1.s = x4 at *
      generalize Ent.v (E.getD j noE) = x3 at *
      gi_wp2
      refine HRR.out.mono ?_
      rintro e W' (⟨rfl, hJ', hK'⟩ | ⟨rfl, hJx⟩)
      · have HJ2 := Lib.hid hJ'
        have HK2 := Lib.hid (HK.out.trans hK')
        clear hJ' hK' hrun HRR
        gi_wp2
        go_roundw
        case rel => exact ⟨j + 1, pre2, by omega, by go_num, HS.out, HJ2.out, HK2.out⟩
        case measure => simp [intOf]; omega
      · have HF : Hid (P (.returned (.tuple #[])) W') := HQ2.out pre2 W' (by rw [HS.out]; exact List.take_prefix _ _) hJx
        clear hJx hrun HRR
        gi_wp2
        exact bodyPost_ret (results_none rfl _ _ _) rfl HF.out
    · obtain rfl : j = L := by omega
      have HF : Hid (P (.returned (.tuple #[])) V) := HQ1.out pre V (by
        rw [HP.out, List.take_of_length_le]
        rw [HTL.out]; omega) HJ.out
      gi_wp2
      exact bodyPost_end (results_none rfl _ _ _) rfl HF.out
end Go.Proofs.Ytinihggcibghaaa
