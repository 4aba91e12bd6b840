/-
  All of a bag.
-/
import Derived.Test.YtinihggcibghaaaB8
import Derived.Test.YtinihggcibghaaaRnd
namespace Go.Proofs.Ytinihggcibghaaa
set_option maxRecDepth 100000
set_option linter.unusedSimpArgs false
open Go Go.RowKit Bg
attribute [local go_sem] Oper.semAt_some

set_option maxHeartbeats 2000000 in
theorem placed_each (n : Nat) (hn : 1 ≤ n) {w : World} {S : Nat → Prop} {o bx : Nat} {b : St} {v : Value} {E : List Ent} (hE : E.map (·.1) = b.l) (hl : b.l.length ≤ 256) (ho : w.heap[o]? = some (.cells (objC v b) 29 (0, 0))) (hw : Own w S o v E) (hx : w.cell? ⟨bx, 0, none⟩ = some (.pointer (some ⟨o, 0, none⟩))) :
    SeqStopsK Fence.wide n Try.prog 49 #[.pointer (some ⟨bx, 0, none⟩)] (fun x : {x : Nat × Ent // x ∈ tel E} => enB x.1) (KpB o bx v)
      (fun xs => xs.map (·.1) = tel E) (fun pre => pre.map (·.1) <+: tel E) 256 w := by
  intro l J Jx W hW hJ hJx hY h0
  have HY' := Lib.hid hY
  obtain ⟨A, cap, rfl, hcap, hmx, hA⟩ := hw.form
  have hlen : E.length = b.l.length := by rw [← hE]; simp
  have hobl := blk_lt ho
  have hxbl := World.block_lt_of_cell? w _ hx
  have hk0 : KpB o bx (.slice A E.length cap) w W := by
    intro k hk
    refine hW.block k ?_
    rcases hk with rfl | rfl | hk
    · exact hobl
    · exact hxbl
    · exact (hw.row.lt k hk).2
  have HL : Hid (∀ V, KpB o bx (.slice A E.length cap) w V → Calls Try.prog 17 #[.pointer (some ⟨o, 0, none⟩)] V fun e w' => e = .returned (.int .i64 (E.length : Nat)) ∧ V = w') := by
    intro V hV
    have ho' : V.heap[o]? = _ := (hV o (.inl rfl)).trans ho
    clear ho hw hk0 hY hJ hJx HY' hV
    obtain ⟨⟨c0, _⟩, _⟩ := eight ho'
    clear ho'
    go_enter Try.func17, Try.ntmps17
    go_wp2
    go_ret
    exact ⟨rfl, rfl⟩
  have HV : Hid (∀ V, KpB o bx (.slice A E.length cap) w V → V.cell? ⟨bx, 0, none⟩ = some (.pointer (some ⟨o, 0, none⟩)) ∧ V.cell? ⟨o, 0, none⟩ = some (.slice A E.length cap)) := by
    intro V hV
    refine ⟨(World.cell?_of_block (a := ⟨bx, 0, none⟩) (hV bx (.inr (.inl rfl)))).trans hx, ?_⟩
    rw [World.cell?_of_block (a := ⟨o, 0, none⟩) (hV o (.inl rfl)), blk_cell ho]; rfl
  have HG : Hid (∀ V j, KpB o bx (.slice A E.length cap) w V → j < E.length → ∃ g, A = some ⟨g, 0, none⟩ ∧ V.cell? ⟨g, j * 5, none⟩ = some (.int .i64 (E.getD j noE).1.n) ∧ V.cell? ⟨g, j * 5 + 1, none⟩ = some (.int .i64 (E.getD j noE).1.f) ∧ V.cell? ⟨g, j * 5 + 2, none⟩ = some (.int .i64 (E.getD j noE).1.t) ∧ V.cell? ⟨g, j * 5 + 3, none⟩ = some (Ent.v (E.getD j noE)) ∧ V.cell? ⟨g, j * 5 + 4, none⟩ = some (.bool (E.getD j noE).1.s)) := by
    intro V j hV hj
    obtain ⟨g, rfl⟩ := hA (by omega)
    have hg := hV g (.inr (.inr rfl))
    obtain ⟨q0, q1, q2, q3, q4⟩ := hw.cells hj
    exact ⟨g, rfl, (World.cell?_of_block (a := ⟨g, _, none⟩) hg).trans q0, (World.cell?_of_block (a := ⟨g, _, none⟩) hg).trans q1, (World.cell?_of_block (a := ⟨g, _, none⟩) hg).trans q2, (World.cell?_of_block (a := ⟨g, _, none⟩) hg).trans q3, (World.cell?_of_block (a := ⟨g, _, none⟩) hg).trans q4⟩
  obtain ⟨cx, _⟩ := HV.out W hk0
  have HLW := Lib.hid (HL.out W hk0)
  have HK0 := Lib.hid hk0
  have hE256 : E.length ≤ 256 := by omega
  have HT := Lib.hid (fun j (hj : j < E.length) => tel_take E hj)
  have HTL := Lib.hid (tel_length E)
  have HTM : Hid (∀ j, j < E.length → (j, E.getD j noE) ∈ tel E) := fun j hj => List.mem_map.2 ⟨j, List.mem_range.2 hj, rfl⟩
  clear hW hJ hJx hY hx ho hw hobl hxbl hk0 hlen hE hl hA hmx
  obtain ⟨P, hP⟩ : ∃ P : Ending → World → Prop, P = fun e W' => (∃ v, e = .returned v) ∧ ((∃ xs : List {x : Nat × Ent // x ∈ tel E}, xs.map (·.1) = tel E ∧ J xs W') ∨ (∃ pre : List {x : Nat × Ent // x ∈ tel E}, pre.map (·.1) <+: tel E ∧ Jx pre W')) := ⟨_, rfl⟩
  have HQ1 : Hid (∀ (xs : List {x : Nat × Ent // x ∈ tel E}) (W' : World), xs.map (·.1) = tel E → J xs W' → P (.returned (.tuple #[])) W') := by
    rw [hP]; exact fun xs W' h1 h2 => ⟨⟨_, rfl⟩, .inl ⟨xs, h1, h2⟩⟩
  have HQ2 : Hid (∀ (xs : List {x : Nat × Ent // x ∈ tel E}) (W' : World), xs.map (·.1) <+: tel E → Jx xs W' → P (.returned (.tuple #[])) W') := by
    rw [hP]; exact fun xs W' h1 h2 => ⟨⟨_, rfl⟩, .inr ⟨xs, h1, h2⟩⟩
  rw [← hP]
  clear hP
  have H0 := Lib.hid h0
  clear h0
  obtain ⟨L, hL⟩ : ∃ L, L = E.length := ⟨_, rfl⟩
  rw [← hL] at HL HV HG HLW HK0 hE256 HT HTL HTM hcap
  refine callsIn_of_wp Try.func49 rfl trivial ?_ rfl
  simp only [Try.ntmps49, List.size_toArray, List.length_cons, List.length_nil, Nat.reduceAdd, Nat.reduceSub, Array.replicate_succ, Array.replicate_zero, List.push_toArray, List.append_toArray, List.nil_append, List.cons_append]
  gi_wp2_with fail
  refine ⟨trivial, (callsIn_wide.2 HLW.out).mono ?_⟩
  rintro e w' ⟨rfl, rfl⟩
  gi_wp2
  gi_loopw [6] (fun i wr => ∃ (j : Nat) (pre : List {x : Nat × Ent // x ∈ tel E}), j ≤ L ∧ i = .int .i64 (j : Int) ∧ pre.map (·.1) = (tel E).take j ∧ J pre wr ∧ KpB o bx (.slice A L cap) w wr) (fun i _ => L - (intOf i).toNat)
  case atStart => exact ⟨0, [], by omega, rfl, by simp, H0.out, HK0.out⟩
  case round =>
    obtain ⟨j, pre, hj, rfl, hpre, hJ, hK⟩ := hrel
    rename World => V
    have HP := Lib.hid hpre
    have HJ := Lib.hid hJ
    have HK := Lib.hid hK
    obtain ⟨e1, e2⟩ := HV.out V hK
    clear hpre hJ hK
    by_cases h5 : j < L
    · obtain ⟨g, hA, q0, q1, q2, q3, q4⟩ := HG.out V j HK.out h5
      obtain ⟨xx, hxx⟩ : ∃ xx : {x : Nat × Ent // x ∈ tel E}, xx.1 = (j, E.getD j noE) := ⟨⟨_, HTM.out j h5⟩, rfl⟩
      have hpl : pre.length = j := by
        have h1 := congrArg List.length HP.out
        rw [List.length_map, List.length_take, HTL.out] at h1
        omega
      have hY := HY'.out pre xx V HJ.out (by omega)
      have HS : Hid ((pre ++ [xx]).map (·.1) = (tel E).take (j + 1)) := by
        rw [Hid, HT.out j h5, List.map_append, HP.out]; simp [hxx]
      obtain ⟨fn, tmps, assign, body, hrun, hR⟩ := hY
      rw [hxx] at hrun
      dsimp only [enB, flA] at hrun
      have HRR := Lib.hid hR
      clear hR
      subst hA
      generalize pre ++ [xx] = pre2 at *
      clear hxx hpl
      generalize (E.getD j noE).1.n = x0 at *
      generalize (E.getD j noE).1.f = x1 at *
      generalize (E.getD j noE).1.t = x2 at *
      generalize (E.getD j noE).1.s = x4 at *
      generalize Ent.v (E.getD j noE) = x3 at *
      gi_wp2
      refine HRR.out.mono ?_
      rintro e W' (⟨rfl, hJ', hK'⟩ | ⟨rfl, hJx⟩)
      · have HJ2 := Lib.hid hJ'
        have HK2 := Lib.hid (HK.out.trans hK')
        clear hJ' hK' hrun HRR
        gi_wp2
        go_roundw
        case rel => exact ⟨j + 1, pre2, by omega, by go_num, HS.out, HJ2.out, HK2.out⟩
        case measure => simp [intOf]; omega
      · have HF : Hid (P (.returned (.tuple #[])) W') := HQ2.out pre2 W' (by rw [HS.out]; exact List.take_prefix _ _) hJx
        clear hJx hrun HRR
        gi_wp2
        exact bodyPost_ret (results_none rfl _ _ _) rfl HF.out
    · obtain rfl : j = L := by omega
      have HF : Hid (P (.returned (.tuple #[])) V) := HQ1.out pre V (by
        rw [HP.out, List.take_of_length_le]
        rw [HTL.out]; omega) HJ.out
      gi_wp2
      exact bodyPost_end (results_none rfl _ _ _) rfl HF.out
theorem row_grown {w w' : World} {B : Nat} {e : TypeId} {size n : Nat} {v : Value} {xs : List Value} {row : Option Nat} (ho : w.ownsRow B e size v n xs) (hg : w.grownBy w' row) (hr : ∀ r, row = some r → ∃ o : Obj, w.heap[r]? = some o ∧ o.isCells = false) : w'.ownsRow B e size v n xs := by
  refine ho.kept hg ?_
  rcases ho.2 with ⟨rfl, _⟩ | ⟨g, cap, cur, rfl, _, hgg, _⟩
  · exact .inl rfl
  · refine .inr (fun e => ?_)
    obtain ⟨o, h1, h2⟩ := hr g e.symm
    rw [hgg] at h1
    cases h1
    cases h2
theorem Own.grownW {w w' : World} {S : Nat → Prop} {o : Nat} {v : Value} {E : List Ent} {row : Option Nat} (h : Own w S o v E) (hg : w.grownBy w' row) (hr : ∀ r, row = some r → ∃ o : Obj, w.heap[r]? = some o ∧ o.isCells = false) : Own w' S o v E :=
  ⟨row_grown h.row hg hr, fun e he => row_grown (h.dat e he) hg hr, h.vo, h.eo, h.apart⟩

/-- The list behind some packets. -/
structure AllJ (w W0 : World) (l : List Fl) (v : Value) (E : List Ent) (W : World) : Prop where
  map : E.map (·.1) = l
  below : Below w.heap.size w W
  size : W0.heap.size ≤ W.heap.size
  box : W.heap[w.heap.size]? = some (.cells #[v] 25 (0, 0))
  own : Own W (fun k => W0.heap.size ≤ k ∧ k < W.heap.size) w.heap.size v E
def AllI (w W0 : World) {E : List Ent} (pre : List {x : Nat × Ent // x ∈ tel E}) (W : World) : Prop := ∃ v' E', AllJ w W0 (pre.map (fun x => x.1.2.1)) v' E' W
theorem AllJ.grown {w W0 W W' : World} {l : List Fl} {v : Value} {E : List Ent} {row : Option Nat} (h : AllJ w W0 l v E W) (hz : w.heap.size < W0.heap.size) (hg : W.grownBy W' row) (hr : ∀ r, row = some r → W0.heap.size ≤ r ∧ ∃ o : Obj, W.heap[r]? = some o ∧ o.isCells = false) : AllJ w W0 l v E W' := by
  obtain ⟨h1, h2, h3, h4, h5⟩ := h
  refine ⟨h1, h2.grown hg h2.size (fun k e => by have := (hr k e).1; omega), Nat.le_trans h3 hg.size, (hg.block _ (blk_lt h4) (fun e => by have := (hr _ e.symm).1; omega)).trans h4, (h5.grownW hg (fun r e => (hr r e).2)).more (fun k hk => ⟨hk.1, Nat.lt_of_lt_of_le hk.2 hg.size⟩)⟩
theorem AllJ.step {w W0 W V w3 : World} {o bx : Nat} {v v' v2 : Value} {l : List Fl} {E' : List Ent} {e : Ent} (h : AllJ w W0 l v' E' W) (hz : w.heap.size < W0.heap.size)
    (hV : Kept (fun _ => False) W V) (hn : V.ownsRow W.heap.size 5 1 (Ent.v e) e.1.d.length (e.1.d.map byV)) (hg : Kept (fun k => v'.ownBlock = some k) V w3) (ho2 : w3.ownsRow 0 38 5 v2 (E'.length + 1) (csE (E' ++ [e]))) (hat : v2.ownBlock = v'.ownBlock ∨ ∀ k, v2.ownBlock = some k → V.heap.size ≤ k)
    (hKp : ∀ k, (k = o ∨ k = bx ∨ v.ownBlock = some k) → k < W0.heap.size ∧ k ≠ w.heap.size) :
    KeepsFrom W0.heap.size W (w3.setCell ⟨w.heap.size, 0, none⟩ v2) ∧ KpB o bx v W (w3.setCell ⟨w.heap.size, 0, none⟩ v2) ∧ AllJ w W0 (l ++ [e.1]) v2 (E' ++ [e]) (w3.setCell ⟨w.heap.size, 0, none⟩ v2) := by
  obtain ⟨h1, h2, h3, h4, h5⟩ := h
  have hk : Kept (fun k => v'.ownBlock = some k) W w3 := (hV.mono (Y := fun k => v'.ownBlock = some k) (fun _ _ h => h.elim)).trans hg (fun _ _ h => h)
  have hkq : Kept (fun k => k = w.heap.size ∨ v'.ownBlock = some k) W (w3.setCell ⟨w.heap.size, 0, none⟩ v2) := (hk.mono (Y := fun k => k = w.heap.size ∨ v'.ownBlock = some k) (fun _ _ h => .inr h)).trans (setO w3 w.heap.size 0 v2) (fun _ _ h => .inl h)
  have hv'lt : ∀ k, v'.ownBlock = some k → W0.heap.size ≤ k := fun k hk => (h5.vo k hk).1.1
  have hs1 := hV.size
  have hs2 := hg.size
  have hsz : (w3.setCell ⟨w.heap.size, 0, none⟩ v2).heap.size = w3.heap.size := by simp
  refine ⟨⟨hkq.size, fun k ob hk1 hk2 hk3 => ?_⟩, fun k hk1 => ?_, ⟨?_, ?_, by rw [hsz]; omega, ?_, ?_⟩⟩
  · refine (hkq.block k (blk_lt hk2) ?_).trans hk2
    rintro (e1 | e1)
    · omega
    · rcases h5.row.2 with ⟨rfl, _⟩ | ⟨g, cap, cur, rfl, _, hgg, _⟩
      · cases e1
      · simp [Value.ownBlock] at e1
        subst e1
        rw [hgg] at hk2
        cases hk2
        cases hk3
  · obtain ⟨q1, q2⟩ := hKp k hk1
    refine hkq.block k (by omega) ?_
    rintro (e1 | e1)
    · exact q2 e1
    · have := hv'lt k e1; omega
  · rw [List.map_append, h1]; rfl
  · exact h2.trans ⟨hkq.os, hkq.tape, hkq.output, hkq.size, fun k hk1 => hkq.block k (by have := h2.size; omega) (by
      rintro (e1 | e1)
      · omega
      · have := hv'lt k e1; omega)⟩
  · rw [blk_set (cur := #[v']) (e := 25) (m := (0, 0))]
    · rfl
    · exact (hk.block _ (blk_lt h4) (fun e1 => by have := hv'lt _ e1; omega)).trans h4
  · refine Own.snoc (N := W.heap.size) (h5.kept hV (fun _ _ => id)) (blk_lt h4) (fun k hk1 => hk1.2) hs1 hn hg ho2 hat (fun k hk1 => ⟨hk1.1, by rw [hsz]; have := hk1.2; omega⟩) (fun k hk1 hk2 => ⟨by omega, by rw [hsz]; exact hk2⟩) _

theorem wpIn_held_round {l n id : Nat} {P : Program} {Q : Exit → Act → World → Prop} {a : Act} {w : World} {ls : List Oper} {S : World → Prop} (hm : P.follows .mixedOrders = true) (hnd : noDefer ls.toArray = true) (hS : S w.drew)
    (h : S w.drew → wpAnyH P .any ls.toArray (Calm Q) S ls.toArray.size (Array.replicate ls.toArray.size false) a w.drew) : (Code.region id ls.toArray true).wpIn (Fence.wide.inRound l) n P Q a w :=
  wpIn_region_any hm (wpAnyIn_of_any hnd _ _ _ _ (wpAny_of_held _ _ _ _ (h hS)))

/-- What All answers: packets in memory of its own. -/
def AllP (w : World) (l : List Fl) (e : Ending) (w' : World) : Prop := ∃ v E, e = .returned v ∧ E.map (·.1) = l ∧ Own w' (fun k => w.heap.size < k ∧ k < w'.heap.size) w.heap.size v E ∧ Below w.heap.size w w'

set_option maxHeartbeats 4000000 in
theorem all_any {w : World} {S : Nat → Prop} {o k : Nat} {b : St} (h : BagAt 29 w S o b) (hb : Bd k b) :
    Calls Try.prog 14 #[.pointer (some ⟨o, 0, none⟩)] w (AllP w b.l) := by
  obtain ⟨⟨v, E, hE, ho, hw⟩, _, _⟩ := h
  have hol := blk_lt ho
  have hl := hb.len
  have hlen : E.length = b.l.length := by rw [← hE]; simp
  have HB60 : Hid (∀ i, i < E.length → (E.getD i noE).1.d.length ≤ 60) := fun i hi => by rw [entD hE]; exact (hb.at_ (by omega)).1
  obtain ⟨P, hP⟩ : ∃ P : Ending → World → Prop, P = AllP w b.l := ⟨_, rfl⟩
  rw [← hP]
  refine (callsIn_wide (n := 9)).1 ?_
  refine callsIn_of_wp_marks Try.func14 rfl trivial ?_ rfl
  simp only [Try.ntmps14, List.size_toArray, List.length_cons, List.length_nil, Nat.reduceAdd, Nat.reduceSub, Array.replicate_succ, Array.replicate_zero, List.push_toArray, List.append_toArray, List.nil_append, List.cons_append]
  have HO := Lib.hid ho
  have HW := Lib.hid hw
  clear ho hw
  gi_wp2_with fail
  refine ⟨trivial, (callsIn_wide.2 (placed_any _ _)).mono ?_⟩
  rintro e w2 ⟨rfl, rfl⟩
  gi_wp2_with fail
  obtain ⟨W0, hW0⟩ : ∃ W0, placedW (w.alloc (.cells #[.slice none 0 0] 25)) (.pointer (some ⟨o, 0, none⟩)) = W0 := ⟨_, rfl⟩
  have hz : W0.heap.size = w.heap.size + 2 := by rw [← hW0]; simp [placedW]
  have hb0 : Below w.heap.size w W0 := by rw [← hW0, placedW]; exact (((Below.refl _ w).alloc (by simp) _).alloc (by simp) _)
  have hq0 : W0.heap[w.heap.size]? = some (.cells #[.slice none 0 0] 25 (0, 0)) := by
    rw [← hW0, placedW, Below.heap_alloc _ _ _ (by simp)]; exact World.alloc_heap_new w _
  have hx0 : W0.cell? ⟨w.heap.size + 1, 0, none⟩ = some (.pointer (some ⟨o, 0, none⟩)) := by
    rw [← hW0]
    have := placedW_cell (w.alloc (.cells #[.slice none 0 0] 25)) (.pointer (some ⟨o, 0, none⟩))
    simpa only [World.size_alloc] using this
  have k0 : Kept (fun _ => False) w W0 := Kept.of_below hb0 (Nat.le_refl _)
  have ho0 := (k0.block o hol id).trans HO.out
  have hw0 := HW.out.kept k0 (fun _ _ => id)
  rw [hW0]
  have hvne : ∀ g, v.ownBlock = some g → g < w.heap.size := fun g hg => (HW.out.row.lt g hg).2
  have HKP : Hid (∀ k, (k = o ∨ k = w.heap.size + 1 ∨ v.ownBlock = some k) → k < W0.heap.size ∧ k ≠ w.heap.size) := fun k hk => by
    rcases hk with rfl | rfl | hk
    · omega
    · omega
    · have := hvne _ hk; omega
  have HI0 : Hid (AllI (E := E) w W0 [] W0) := ⟨.slice none 0 0, [], ⟨rfl, hb0, Nat.le_refl _, hq0, ⟨World.ownsRow_nil _ _ _ _, (fun e he => absurd he (List.not_mem_nil)), (fun g hg => by cases hg), (fun e he => absurd he (List.not_mem_nil)), List.Pairwise.nil⟩⟩⟩
  have HZ := Lib.hid hz
  have HZ2 : Hid (w.heap.size < W0.heap.size) := by show w.heap.size < W0.heap.size; omega
  -- what is done behind the loop
  have HEND : Hid (∀ (D : Nat) (xs : List {x : Nat × Ent // x ∈ tel E}) (W : World), W0.heap.size ≤ D → xs.map (·.1) = tel E → AllI w W0 xs W → W.heap[D]? = some (.deferred (some [])) → ∃ v', W.cell? ⟨w.heap.size, 0, none⟩ = some v' ∧ P (.returned v') (W.putObj D (.deferred none))) := by
    rintro D xs W hD h1 ⟨v', E', a1, a2, a3, a4, a5⟩ h3
    refine ⟨v', by rw [blk_cell a4]; rfl, ?_⟩
    rw [hP]
    have hm : xs.map (fun x => x.1.2.1) = b.l := by
      have : xs.map (fun x => x.1.2.1) = (xs.map (·.1)).map (fun y => y.2.1) := by simp
      rw [this, h1, ← hE]
      unfold tel
      apply List.ext_getElem?
      intro i
      simp only [List.map_map, List.getElem?_map, List.getElem?_range]
      by_cases hi : i < E.length
      · simp [hi]
      · simp [hi]
    have hg : W.grownBy (W.putObj D (.deferred none)) (some D) := ⟨rfl, rfl, rfl, by simp [World.putObj], fun k _ hk => World.putObj_heap_other (fun e => hk (by rw [e]))⟩
    refine ⟨v', E', rfl, by rw [a1, hm], (a5.grownW hg (fun r e => by cases e; exact ⟨_, h3, rfl⟩)).more (fun k hk => ⟨by have := HZ2.out; omega, by simpa [World.putObj] using hk.2⟩), a2.trans ⟨rfl, rfl, rfl, by simp [World.putObj], fun k hk => World.putObj_heap_other (by have := HZ2.out; omega)⟩⟩
  have HL : Hid (∀ (x : {x : Nat × Ent // x ∈ tel E}) (W : World), Below w.heap.size w W → Calls Try.prog 40 #[.agg #[.int .i64 x.1.2.1.n, .int .i64 x.1.2.1.f, .int .i64 x.1.2.1.t, .slice x.1.2.2.1 x.1.2.1.d.length x.1.2.2.2, .bool x.1.2.1.s]] W fun e w' => ∃ A' cap', e = .returned (flA x.1.2.1 (.slice A' x.1.2.1.d.length cap')) ∧ w'.ownsRow W.heap.size 5 1 (.slice A' x.1.2.1.d.length cap') x.1.2.1.d.length (x.1.2.1.d.map byV) ∧ Below W.heap.size W w') := by
    rintro ⟨x, hx⟩ W hB
    obtain ⟨i, hi, rfl⟩ := List.mem_map.1 hx
    have hi := List.mem_range.1 hi
    obtain ⟨a1, a2, a3, a4⟩ := HW.out.ent hi
    refine (like_any _ (a1.below hB) a4 (by have := HB60.out i hi; omega)).mono ?_
    rintro e w' ⟨v', rfl, q1, q2⟩
    obtain ⟨A', cap', rfl, _⟩ := row_bytes q1
    exact ⟨A', cap', rfl, q1, q2⟩
  have HE256 : Hid (E.length ≤ 256) := by show _ ≤ _; omega
  clear hW0 hq0 k0 hP hz
  refine wpIn_rangeFunc_ownH rfl (by omega) (gf := 49) (lb := #[.pointer (some ⟨w.heap.size + 1, 0, none⟩)]) rfl trivial (enters_of Try.func49 (by kernel_rfl) rfl)
    (placed_each (9 - 1) (by omega) hE hl ho0 hw0 hx0) (fun h k => h.trans k) ?hKb (Below.refl _ _) (fun _ => rfl)
    (AllI w W0) (fun _ _ _ => False) ?hI (fun _ _ _ _ _ h => h.elim) HI0.out
    (fun x a' W => ∃ bk, W0.heap.size ≤ bk ∧ W.heap[bk]? = some (.cells #[.int .i64 x.1.2.1.n, .int .i64 x.1.2.1.f, .int .i64 x.1.2.1.t, Ent.v x.1.2, .bool x.1.2.1.s] 38 (0, 0)) ∧ (∀ u, W.cell? ⟨w.heap.size, 0, none⟩ = some u → u.ownBlock ≠ some bk) ∧ a' = { tmps := #[.pointer (some ⟨o, 0, none⟩), undef, .slice none 0 0, .pointer (some ⟨w.heap.size, 0, none⟩), undef, .pointer (some ⟨bk, 0, none⟩), .pointer (some ⟨o, 0, none⟩), .func (.func 49) #[] #[.pointer (some ⟨w.heap.size + 1, 0, none⟩)], .int .i64 (x.1.1 : Nat), flA x.1.2.1 (Ent.v x.1.2), undef, undef, undef, undef, undef, undef], defers := [] })
    ?hAx ?assign ?body ?done (fun _ _ _ _ _ _ h => h.elim)
  case hKb =>
    intro W l o1 o' hl1 hl2 _ _ k hk
    have := (HKP.out k hk).1
    exact World.putObj_heap_other (by omega)
  case hI =>
    rintro pre W W' row ⟨v', E', h⟩ hg hr
    exact ⟨v', E', h.grown HZ2.out hg hr⟩
  case hAx =>
    rintro x a' _ W W' row ⟨bk, h1, h2, h4, h3⟩ hg hr
    have hq : W'.cell? ⟨w.heap.size, 0, none⟩ = W.cell? ⟨w.heap.size, 0, none⟩ := by
      refine World.cell?_of_block (a := ⟨w.heap.size, 0, none⟩) ?_
      by_cases hlt : w.heap.size < W.heap.size
      · exact hg.block _ hlt (fun e => by have := (hr w.heap.size e.symm).1; have := HZ2.out; omega)
      · exact absurd (blk_lt h2) (by have := HZ2.out; omega)
    refine ⟨bk, h1, (hg.block bk (blk_lt h2) (fun e => ?_)).trans h2, fun u hu => h4 u (by rw [← hq]; exact hu), h3⟩
    obtain ⟨_, o1, h4, h5⟩ := hr bk e.symm
    rw [h2] at h4
    cases h4
    cases h5
  case assign =>
    rintro l pre x W K ⟨v', E', hI⟩ hK
    have hsz := hI.size
    have hvl : v'.ownBlock ≠ some W.heap.size := fun e => by have := (hI.own.row.lt _ e).2; omega
    have hc0 : (W.alloc (.cells #[.int .i64 x.1.2.1.n, .int .i64 x.1.2.1.f, .int .i64 x.1.2.1.t, Ent.v x.1.2, .bool x.1.2.1.s] 38)).cell? ⟨w.heap.size, 0, none⟩ = some v' := by
      refine ((Kept.refl (fun _ => False) W).alloc _).cell ?_ id
      rw [blk_cell hI.box]; rfl
    have HA : Hid (∀ a', a' = ({ tmps := #[.pointer (some ⟨o, 0, none⟩), undef, .slice none 0 0, .pointer (some ⟨w.heap.size, 0, none⟩), undef, .pointer (some ⟨W.heap.size, 0, none⟩), .pointer (some ⟨o, 0, none⟩), .func (.func 49) #[] #[.pointer (some ⟨w.heap.size + 1, 0, none⟩)], .int .i64 (x.1.1 : Nat), flA x.1.2.1 (Ent.v x.1.2), undef, undef, undef, undef, undef, undef], defers := [] } : Act) → K a' (W.alloc (.cells #[.int .i64 x.1.2.1.n, .int .i64 x.1.2.1.f, .int .i64 x.1.2.1.t, Ent.v x.1.2, .bool x.1.2.1.s] 38))) := fun a' ha' => by
      refine hK _ _ (KeepsOthers.from ⟨by simp, fun k o hk _ => (Below.heap_alloc _ _ _ (blk_lt hk)).trans hk⟩ _) (fun k hk => Below.heap_alloc _ _ _ (by have := (HKP.out k hk).1; omega)) ⟨v', E', hI.grown HZ2.out (World.grownBy_alloc W _ none) (fun r e => by cases e)⟩ ⟨W.heap.size, hsz, World.alloc_heap_new _ _, fun u hu => ?_, ha'⟩
      rw [hc0] at hu
      cases hu
      exact hvl
    clear hK hI hc0 hvl
    obtain ⟨⟨i, ⟨n1, f1, t1, d1, s1⟩, A1, cap1⟩, hx⟩ := x
    simp only [enB, flA, Ent.v] at HA ⊢
    gi_wp2
    exact HA.out _ rfl
  case body =>
    rintro l pre x a' W hl1 _ ⟨v', E', hI⟩ ⟨bk, hbk, hbx, hub, rfl⟩ hlen256
    have hq : W.cell? ⟨w.heap.size, 0, none⟩ = some v' := by rw [blk_cell hI.box]; rfl
    have hqf := blk_free hI.box 0
    have hvb := hub _ hq
    have HLx := Lib.hid (HL.out x)
    have hEl : E'.length ≤ 256 := by
      have h1 := congrArg List.length hI.map
      simp only [List.length_map] at h1
      omega
    have hsz := hI.size
    have hbkl := blk_lt hbx
    have hqn : w.heap.size < W.heap.size := blk_lt hI.box
    -- what a region's walk ends with
    have HS : Hid (∀ A' cap' (V w3 : World) t' g cap2, V.ownsRow W.heap.size 5 1 (.slice A' x.1.2.1.d.length cap') x.1.2.1.d.length (x.1.2.1.d.map byV) → Below W.heap.size W V →
        (V.alloc (.cells #[.int .i64 x.1.2.1.n, .int .i64 x.1.2.1.f, .int .i64 x.1.2.1.t, .slice A' x.1.2.1.d.length cap', .bool x.1.2.1.s] t')).grownBy w3 v'.ownBlock →
        w3.ownsRow 0 38 5 (.slice (some ⟨g, 0, none⟩) (E'.length + 1) cap2) (E'.length + 1) (csE E' ++ [.int .i64 x.1.2.1.n, .int .i64 x.1.2.1.f, .int .i64 x.1.2.1.t, .slice A' x.1.2.1.d.length cap', .bool x.1.2.1.s]) → (v'.ownBlock = some g ∨ g = V.heap.size + 1) →
        (w3.heap[bk]? = W.heap[bk]? ∧ w3.cell? ⟨w.heap.size, 0, none⟩ = some v' ∧ w3.frozen? ⟨w.heap.size, 0, none⟩ = false) ∧
        KeepsFrom W0.heap.size W (w3.setCell ⟨w.heap.size, 0, none⟩ (.slice (some ⟨g, 0, none⟩) (E'.length + 1) cap2)) ∧ KpB o (w.heap.size + 1) v W (w3.setCell ⟨w.heap.size, 0, none⟩ (.slice (some ⟨g, 0, none⟩) (E'.length + 1) cap2)) ∧ AllI w W0 (pre ++ [x]) (w3.setCell ⟨w.heap.size, 0, none⟩ (.slice (some ⟨g, 0, none⟩) (E'.length + 1) cap2))) := by
      intro A' cap' V w3 t' g cap2 hrow hbV hg ho2 hat
      have hV : Kept (fun _ => False) W V := Kept.of_below hbV (Nat.le_refl _)
      have hgk : Kept (fun k => v'.ownBlock = some k) V w3 := ((Kept.refl (fun k => v'.ownBlock = some k) V).alloc _).grown hg (fun k e => .inl e)
      have hVs := hV.size
      have hvq : ¬ v'.ownBlock = some w.heap.size := fun e => (hI.own.vo _ e).2 rfl
      obtain ⟨s1, s2, s3⟩ := hI.step (e := (x.1.2.1, A', cap')) (v := v) (bx := w.heap.size + 1) (o := o) HZ2.out hV hrow hgk (v2 := .slice (some ⟨g, 0, none⟩) (E'.length + 1) cap2) (by rw [csE_append]; simpa [csE, Fl.cs, Ent.v] using ho2) (by
        rcases hat with h1 | h1
        · exact .inl h1.symm
        · refine .inr (fun k hk => ?_)
          simp [Value.ownBlock] at hk
          omega) HKP.out
      refine ⟨⟨(hgk.block bk (by omega) hvb).trans (hV.block bk hbkl id), hgk.cell (hV.cell hq id) hvq, ?_⟩, s1, s2, ⟨_, _, by rw [List.map_append]; exact s3⟩⟩
      rw [hgk.frozen (p := ⟨w.heap.size, 0, none⟩) (by show w.heap.size < _; omega) hvq, hV.frozen (p := ⟨w.heap.size, 0, none⟩) hqn id]
      exact hqf
    have HB := Lib.hid hI.below
    have HRow := Lib.hid hI.own.row
    have HVQ : Hid (v'.ownBlock ≠ some w.heap.size) := fun e => (hI.own.vo _ e).2 rfl
    have HBX := Lib.hid hbx
    clear hI hbx hub hvb HL HEND HI0
    generalize pre ++ [x] = pre2 at *
    obtain ⟨⟨i, ⟨n1, f1, t1, d1, s1⟩, A1, cap1⟩, hx⟩ := x
    simp only [flA, Ent.v] at HS HLx HBX ⊢
    have HSK : Hid (∀ W' : World, W'.heap[bk]? = W.heap[bk]? → W'.cell? ⟨bk, 0, none⟩ = some (.int .i64 n1) ∧ W'.cell? ⟨bk, 1, none⟩ = some (.int .i64 f1) ∧ W'.cell? ⟨bk, 2, none⟩ = some (.int .i64 t1) ∧ W'.cell? ⟨bk, 3, none⟩ = some (.slice A1 d1.length cap1) ∧ W'.cell? ⟨bk, 4, none⟩ = some (.bool s1)) := fun W' h => (five (h.trans HBX.out)).1
    obtain ⟨i0, hi, hz0, hz1, hz2⟩ := info_parts Try.infoFl
    have HX : Hid (∀ A' cap', ∀ u ∈ [Value.int .i64 n1, .int .i64 f1, .int .i64 t1, .slice A' d1.length cap', .bool s1], u.oneCell' = true) := by
      intro A' cap' u hu
      simp at hu
      rcases hu with rfl | rfl | rfl | rfl | rfl <;> rfl
    have HLW : Hid (∀ W2 : World, W2 = W.drew → Calls Try.prog 40 #[.agg #[.int .i64 n1, .int .i64 f1, .int .i64 t1, .slice A1 d1.length cap1, .bool s1]] W2 fun e w' => ∃ A' cap', e = .returned (.agg #[.int .i64 n1, .int .i64 f1, .int .i64 t1, .slice A' d1.length cap', .bool s1]) ∧ w'.heap[bk]? = W.heap[bk]? ∧ w'.cell? ⟨w.heap.size, 0, none⟩ = some v' ∧ w'.ownsRow W.heap.size 5 1 (.slice A' d1.length cap') d1.length (d1.map byV) ∧ Below W.heap.size W w' ∧ w'.ownsRow 0 38 5 v' E'.length (csE E')) := by
      rintro W2 rfl
      refine (HLx.out _ (HB.out.drew)).mono ?_
      rintro e w' ⟨A', cap', rfl, h1, h2⟩
      have h3 : Below W.heap.size W w' := (Below.refl _ W).drew.trans h2
      exact ⟨A', cap', rfl, h3.block bk hbkl, (h3.cell (p := ⟨w.heap.size, 0, none⟩) hqn).trans hq, h1, h3, (Kept.of_below (X := fun _ => False) h3 (Nat.le_refl _)).row HRow.out (fun _ _ => id)⟩
    clear HLx HBX
    generalize d1.length = DL at *
    generalize d1.map byV = ds at *
    generalize E'.length = N at *
    generalize csE E' = xs at *
    gi_wp2_with fail
    have hS0 := HSK.out W.drew rfl
    refine wpIn_held_round (S := fun W' => W'.cell? ⟨bk, 0, none⟩ = some (.int .i64 n1) ∧ W'.cell? ⟨bk, 1, none⟩ = some (.int .i64 f1) ∧ W'.cell? ⟨bk, 2, none⟩ = some (.int .i64 t1) ∧ W'.cell? ⟨bk, 3, none⟩ = some (.slice A1 DL cap1) ∧ W'.cell? ⟨bk, 4, none⟩ = some (.bool s1)) (by kernel_rfl) (by kernel_rfl) hS0 (fun hHeld => ?_)
    simp only [List.size_toArray, List.length_cons, List.length_nil, Nat.reduceAdd, Array.replicate_succ, Array.replicate_zero, List.push_toArray, List.nil_append, List.cons_append, List.append_toArray]
    refine take_op (i := 1) (v := ?_) rfl (by kernel_rfl) (by kernel_rfl) (by kernel_rfl) (fun _ _ _ h => h) (Or.inl ⟨by rfl, ?_⟩) (by assumption) ?_
    rotate_left
    · (intro w' hSw; (try dsimp only at hSw); go_simp; (try with_reducible rfl))
    (try simp only [Act.put, List.setIfInBounds_toArray, List.set_cons_zero, List.set_cons_succ])
    refine wpAnyH_ready (rs := [0, 2]) (by kernel_rfl) (by simp) ?_
    refine (cons_op rfl (fun K hK => ?_) (cons_op rfl (fun K hK => ?_) AllReadyH.nil))
    · go_simp
      refine hK.out _ _ hS0 (fun hHeld => ?_)
      clear hK K
      (try simp only [Act.put, List.setIfInBounds_toArray, List.set_cons_zero, List.set_cons_succ])
      refine wpAnyH_ready (rs := [2]) (by kernel_rfl) (by simp) ?_
      refine (cons_op rfl (fun K hK => ?_) AllReadyH.nil)
      go_simp
      with_reducible refine (HLW.out _ rfl).mono ?_
      rintro e w2 ⟨A', cap', rfl, hb2, hq2, hr2, hbe2, hrow2⟩
      have hS2 := HSK.out w2 hb2
      have hq3 := cell_a1 hq2
      have hz2' := hbe2.size
      (try go_wp2_with fail)
      refine hK.out _ _ hS2 (fun hHeld => ?_)
      clear hK K
      (try simp only [Act.put, List.setIfInBounds_toArray, List.set_cons_zero, List.set_cons_succ])
      refine wpAnyH_ready (rs := [3]) (by kernel_rfl) (by simp) ?_
      refine (cons_op rfl (fun K hK => ?_) AllReadyH.nil)
      go_simp
      refine hK.out _ _ (HSK.out _ ((Below.heap_alloc _ _ _ (by omega)).trans hb2)) (fun hHeld => ?_)
      clear hK K
      (try simp only [Act.put, List.setIfInBounds_toArray, List.set_cons_zero, List.set_cons_succ])
      refine wpAnyH_ready (rs := [4]) (by kernel_rfl) (by simp) ?_
      refine (cons_op rfl (fun K hK => ?_) AllReadyH.nil)
      refine step_append_lies _ rfl (.tmp 10) (.tmp 13) 25 rfl 0 38 i0 (.agg #[.int .i64 0, .int .i64 0, .int .i64 0, .slice none 0 0, .bool false]) 5 56 Try.underlying25 hi hz0 hz1 hz2 rfl (by decide) v' N xs (by simp [Act.eval]) (hrow2.alloc _) ⟨w2.heap.size, 0, none⟩ 1 1 [.int .i64 n1, .int .i64 f1, .int .i64 t1, .slice A' DL cap', .bool s1] (by simp [Act.eval]) rfl (new_cells5 _ _ _ _ _ _ rfl) (HX.out _ _) (by decide) (by unfold maxLen; omega) (by omega) (by simp) (w2.heap.size + 1) (by simp) ?_
      intro g2 cap2 w3 ho3 hg3 hat3 _
      obtain ⟨⟨hb3, hq4, hqf3⟩, hfin⟩ := HS.out A' cap' w2 w3 _ g2 cap2 hr2 hbe2 hg3 ho3 hat3
      refine hK.out _ _ (HSK.out w3 hb3) (fun hHeld => ?_)
      clear hK K
      (try simp only [Act.put, List.setIfInBounds_toArray, List.set_cons_zero, List.set_cons_succ])
      refine wpAnyH_ready (rs := [5]) (by kernel_rfl) (by simp) ?_
      refine (cons_op rfl (fun K hK => ?_) AllReadyH.nil)
      go_simp
      refine hK.out _ _ (HSK.out _ ((Below.heap_setCell _ _ _ _ (by show bk ≠ w.heap.size; have := HZ2.out; omega)).trans hb3)) (fun hHeld => ?_)
      clear hK K
      (try simp only [Act.put, List.setIfInBounds_toArray, List.set_cons_zero, List.set_cons_succ])
      refine wpAnyH_done (by kernel_rfl) ?_ _
      exact hfin
    · go_simp
      with_reducible refine (HLW.out _ rfl).mono ?_
      rintro e w2 ⟨A', cap', rfl, hb2, hq2, hr2, hbe2, hrow2⟩
      have hS2 := HSK.out w2 hb2
      have hq3 := cell_a1 hq2
      have hz2' := hbe2.size
      (try go_wp2_with fail)
      refine hK.out _ _ hS2 (fun hHeld => ?_)
      clear hK K
      (try simp only [Act.put, List.setIfInBounds_toArray, List.set_cons_zero, List.set_cons_succ])
      refine wpAnyH_ready (rs := [0, 3]) (by kernel_rfl) (by simp) ?_
      refine (cons_op rfl (fun K hK => ?_) (cons_op rfl (fun K hK => ?_) AllReadyH.nil))
      · go_simp
        refine hK.out _ _ hS2 (fun hHeld => ?_)
        clear hK K
        (try simp only [Act.put, List.setIfInBounds_toArray, List.set_cons_zero, List.set_cons_succ])
        refine wpAnyH_ready (rs := [3]) (by kernel_rfl) (by simp) ?_
        refine (cons_op rfl (fun K hK => ?_) AllReadyH.nil)
        go_simp
        refine hK.out _ _ (HSK.out _ ((Below.heap_alloc _ _ _ (by omega)).trans hb2)) (fun hHeld => ?_)
        clear hK K
        (try simp only [Act.put, List.setIfInBounds_toArray, List.set_cons_zero, List.set_cons_succ])
        refine wpAnyH_ready (rs := [4]) (by kernel_rfl) (by simp) ?_
        refine (cons_op rfl (fun K hK => ?_) AllReadyH.nil)
        refine step_append_lies _ rfl (.tmp 10) (.tmp 13) 25 rfl 0 38 i0 (.agg #[.int .i64 0, .int .i64 0, .int .i64 0, .slice none 0 0, .bool false]) 5 56 Try.underlying25 hi hz0 hz1 hz2 rfl (by decide) v' N xs (by simp [Act.eval]) (hrow2.alloc _) ⟨w2.heap.size, 0, none⟩ 1 1 [.int .i64 n1, .int .i64 f1, .int .i64 t1, .slice A' DL cap', .bool s1] (by simp [Act.eval]) rfl (new_cells5 _ _ _ _ _ _ rfl) (HX.out _ _) (by decide) (by unfold maxLen; omega) (by omega) (by simp) (w2.heap.size + 1) (by simp) ?_
        intro g2 cap2 w3 ho3 hg3 hat3 _
        obtain ⟨⟨hb3, hq4, hqf3⟩, hfin⟩ := HS.out A' cap' w2 w3 _ g2 cap2 hr2 hbe2 hg3 ho3 hat3
        refine hK.out _ _ (HSK.out w3 hb3) (fun hHeld => ?_)
        clear hK K
        (try simp only [Act.put, List.setIfInBounds_toArray, List.set_cons_zero, List.set_cons_succ])
        refine wpAnyH_ready (rs := [5]) (by kernel_rfl) (by simp) ?_
        refine (cons_op rfl (fun K hK => ?_) AllReadyH.nil)
        go_simp
        refine hK.out _ _ (HSK.out _ ((Below.heap_setCell _ _ _ _ (by show bk ≠ w.heap.size; have := HZ2.out; omega)).trans hb3)) (fun hHeld => ?_)
        clear hK K
        (try simp only [Act.put, List.setIfInBounds_toArray, List.set_cons_zero, List.set_cons_succ])
        refine wpAnyH_done (by kernel_rfl) ?_ _
        exact hfin
      · go_simp
        refine hK.out _ _ (HSK.out _ ((Below.heap_alloc _ _ _ (by omega)).trans hb2)) (fun hHeld => ?_)
        clear hK K
        (try simp only [Act.put, List.setIfInBounds_toArray, List.set_cons_zero, List.set_cons_succ])
        refine wpAnyH_ready (rs := [0]) (by kernel_rfl) (by simp) ?_
        refine (cons_op rfl (fun K hK => ?_) AllReadyH.nil)
        go_simp
        refine hK.out _ _ (HSK.out _ ((Below.heap_alloc _ _ _ (by omega)).trans hb2)) (fun hHeld => ?_)
        clear hK K
        (try simp only [Act.put, List.setIfInBounds_toArray, List.set_cons_zero, List.set_cons_succ])
        refine wpAnyH_ready (rs := [4]) (by kernel_rfl) (by simp) ?_
        refine (cons_op rfl (fun K hK => ?_) AllReadyH.nil)
        refine step_append_lies _ rfl (.tmp 10) (.tmp 13) 25 rfl 0 38 i0 (.agg #[.int .i64 0, .int .i64 0, .int .i64 0, .slice none 0 0, .bool false]) 5 56 Try.underlying25 hi hz0 hz1 hz2 rfl (by decide) v' N xs (by simp [Act.eval]) (hrow2.alloc _) ⟨w2.heap.size, 0, none⟩ 1 1 [.int .i64 n1, .int .i64 f1, .int .i64 t1, .slice A' DL cap', .bool s1] (by simp [Act.eval]) rfl (new_cells5 _ _ _ _ _ _ rfl) (HX.out _ _) (by decide) (by unfold maxLen; omega) (by omega) (by simp) (w2.heap.size + 1) (by simp) ?_
        intro g2 cap2 w3 ho3 hg3 hat3 _
        obtain ⟨⟨hb3, hq4, hqf3⟩, hfin⟩ := HS.out A' cap' w2 w3 _ g2 cap2 hr2 hbe2 hg3 ho3 hat3
        refine hK.out _ _ (HSK.out w3 hb3) (fun hHeld => ?_)
        clear hK K
        (try simp only [Act.put, List.setIfInBounds_toArray, List.set_cons_zero, List.set_cons_succ])
        refine wpAnyH_ready (rs := [5]) (by kernel_rfl) (by simp) ?_
        refine (cons_op rfl (fun K hK => ?_) AllReadyH.nil)
        go_simp
        refine hK.out _ _ (HSK.out _ ((Below.heap_setCell _ _ _ _ (by show bk ≠ w.heap.size; have := HZ2.out; omega)).trans hb3)) (fun hHeld => ?_)
        clear hK K
        (try simp only [Act.put, List.setIfInBounds_toArray, List.set_cons_zero, List.set_cons_succ])
        refine wpAnyH_done (by kernel_rfl) ?_ _
        exact hfin
  case done =>
    rintro D xs W hD hS hI hK
    obtain ⟨v', q1, q2⟩ := HEND.out D xs W hD hS hI hK
    have HE := Lib.hid q2
    clear q2 hI hS HEND HL HI0 HKP
    gi_wp2
    refine ⟨by simp, .inl ⟨_, _, rfl, run_takeDeferred hK, ?_⟩⟩
    exact ⟨_, results_tmp (t := 2) rfl _ _ _, HE.out⟩
end Go.Proofs.Ytinihggcibghaaa
