/-
  route.Around: its walk.
-/
import Derived.Test.YtkedjnhidfnlkaaDoorQ2
import Derived.Test.YtkedjnhidfnlkaaDoorQSort
import Derived.Test.YtkedjnhidfnlkaaDoorQPure3
namespace Go.Proofs.YtkedjnhidfnlkaaDoor
set_option maxRecDepth 100000
open Go Go.RowKit Rq

/-- What stands while cells are gone through. -/
structure AR (bm gm cm R C : Nat) (ms : List UInt8) (w : World) (g m : Nat) (ban : List Int) (v : Value) (Qm Q : List (Nat × Nat)) (wr : World) : Prop where
  ex : EmX bm gm cm R C ms w wr
  mp : MapM wr m Qm
  own : wr.ownsRow w.heap.size 3 1 v Q.length ((Q.map (·.1)).map natV)
  bans : wr.heap[g]? = some (.cells (bz (banL ms.length ban)) 4 (0, 0))
  dis : ∀ k, TS bm gm wr k → k ≠ m ∧ k ≠ g ∧ v.ownBlock ≠ some k
  mg : m ≠ g
  vm : v.ownBlock ≠ some m
  vg : v.ownBlock ≠ some g
  ml : w.heap.size ≤ m
  gl : w.heap.size ≤ g

section
variable {bm gm cm R C g m : Nat} {ms : List UInt8} {w wr w1 w2 : World} {ban : List Int} {v : Value} {Qm Q : List (Nat × Nat)}

theorem AR.tbm (h : AR bm gm cm R C ms w g m ban v Qm Q wr) : bm ≠ m ∧ bm ≠ g ∧ v.ownBlock ≠ some bm := h.dis bm (.inr (.inl rfl))
/-- A question on edges. -/
theorem AR.asked (h : AR bm gm cm R C ms w g m ban v Qm Q wr) (hx : EmX bm gm cm R C ms wr w1) : AR bm gm cm R C ms w g m ban v Qm Q w1 := by
  have hb := h.tbm
  refine ⟨h.ex.trans hx, h.mp.kept hx.kp (fun e => hb.1 e.symm), hx.kp.row h.own (fun k hk e => hb.2.2 (by rw [← e]; exact hk)), (hx.kp.block g (blk_lt h.bans) (fun e => hb.2.1 e.symm)).trans h.bans, fun k hk => ?_, h.mg, h.vm, h.vg, h.ml, h.gl⟩
  rcases hx.ts k hk with h1 | h1
  · exact h.dis k h1
  · refine ⟨fun e => ?_, fun e => ?_, fun e => ?_⟩
    · have := h.mp.lt; omega
    · have := blk_lt h.bans; omega
    · have := (h.own.lt k e).2; omega
theorem AR.still (h : AR bm gm cm R C ms w g m ban v Qm Q wr) (hk : Kept (fun _ => False) wr w1) : AR bm gm cm R C ms w g m ban v Qm Q w1 :=
  h.asked ((EmX.refl h.ex.em).still hk)
/-- The map turns. -/
theorem AR.upd {y d : Nat} {D : DataW Unit} (h : AR bm gm cm R C ms w g m ban v Q Q wr) (hD : MapD wr m Q D) (hy : ¬ met Q y) (hg : wr.grownBy w1 (some m))
    (ho : w1.ownsMap Tryd.prog 3 (plainElem Tryd.prog 3) m (Q.length + 1) (D.put (.int .i64 (y : Int)) (.lit (.int .i64 (d : Int))))) : AR bm gm cm R C ms w g m ban v (Q ++ [(y, d)]) Q w1 := by
  have hk : Kept (fun k => k = m) wr w1 := (Kept.refl _ wr).grown hg (fun k e => .inl (by injection e with e; exact e.symm))
  obtain ⟨h1, h2⟩ := h.ex.em.keptX hk (fun k hk => (h.dis k hk).1)
  refine ⟨⟨h1, fun k hk' => h.ex.ts k (h2 k hk'), ?_⟩, MapM.put hD hy ho, hk.row h.own (fun k hk e => h.vm (by rw [← e]; exact hk)), (hk.block g (blk_lt h.bans) (fun e => h.mg e.symm)).trans h.bans, fun k hk' => h.dis k (h2 k hk'), h.mg, h.vm, h.vg, h.ml, h.gl⟩
  exact h.ex.kp.trans hk (fun i hi e => by have := h.ml; omega)
/-- The list grows. -/
theorem AR.app {y d g2 cap2 : Nat} {o : Obj} (hN : 0 < ms.length) (h : AR bm gm cm R C ms w g m ban v Qm Q wr) (hg : (wr.alloc o).grownBy w2 v.ownBlock)
    (ho : w2.ownsRow w.heap.size 3 1 (.slice (some ⟨g2, 0, none⟩) (Q.length + 1) cap2) (Q.length + 1) ((Q.map (·.1)).map natV ++ [natV y])) (hat : v.ownBlock = some g2 ∨ g2 = wr.heap.size + 1) : AR bm gm cm R C ms w g m ban (.slice (some ⟨g2, 0, none⟩) (Q.length + 1) cap2) Qm (Q ++ [(y, d)]) w2 := by
  have hk : Kept (fun k => v.ownBlock = some k) wr w2 := ((Kept.refl _ wr).alloc o).trans ((Kept.refl (fun k => v.ownBlock = some k) (wr.alloc o)).grown hg (fun k h => .inl h)) (fun _ _ h => h)
  obtain ⟨h1, h2⟩ := h.ex.em.keptX hk (fun k hk => (h.dis k hk).2.2)
  have hml := h.mp.lt
  have hgl := blk_lt h.bans
  have hne : ∀ k, k < wr.heap.size → v.ownBlock ≠ some k → (Value.slice (some ⟨g2, 0, none⟩) (Q.length + 1) cap2).ownBlock ≠ some k := by
    intro k hk hv e
    simp only [Value.ownBlock, Option.some.injEq] at e
    rcases hat with h3 | h3
    · exact hv (by rw [h3, e])
    · omega
  have hlt : ∀ k, TS bm gm wr k → k < wr.heap.size := h.ex.em.tlt hN
  refine ⟨⟨h1, fun k hk' => h.ex.ts k (h2 k hk'), ?_⟩, h.mp.kept hk h.vm, ?_, (hk.block g hgl h.vg).trans h.bans, fun k hk' => ⟨(h.dis k (h2 k hk')).1, (h.dis k (h2 k hk')).2.1, hne k (hlt k (h2 k hk')) (h.dis k (h2 k hk')).2.2⟩, h.mg, hne m hml h.vm, hne g hgl h.vg, h.ml, h.gl⟩
  · exact h.ex.kp.trans hk (fun i hi e => by have := (h.own.lt i e).1; omega)
  · simpa using ho
end
/-- Is it banned? -/
def banF (ban : List Int) (y : Nat) : Bool := decide ((y : Int) ∈ ban)
/-- What Around tells. -/
def AroundP (bm gm cm R C : Nat) (ms : List UInt8) (c far : Nat) (ban : List Int) (w : World) (e : Ending) (w' : World) : Prop :=
  ∃ (v : Value) (l : List Nat), e = .returned v ∧ EmX bm gm cm R C ms w w' ∧ w'.ownsRow w.heap.size 3 1 v l.length (l.map natV) ∧ l.Pairwise (· < ·) ∧ ∀ x, x ∈ l ↔ ∃ n, n ≤ far ∧ Fw (outs R C ms) (banF ban) c n x

theorem srtQ_mem {l : List Nat} {x : Nat} : x ∈ srtQ l ↔ x ∈ l := by
  simp [srtQ]
theorem srtQ_rise {l : List Nat} (h : l.Nodup) : (srtQ l).Pairwise (· < ·) := by
  have h1 : (srtQ l).Pairwise (· ≤ ·) := by
    have := List.pairwise_mergeSort (le := fun a b : Nat => decide (a ≤ b)) (by intro a b c; simp; omega) (by intro a b; simp; omega) l
    refine List.Pairwise.imp ?_ this
    intro a b hab; simpa using hab
  have h2 : (srtQ l).Nodup := (List.mergeSort_perm l _).nodup_iff.2 h
  rw [List.nodup_iff_pairwise_ne] at h2
  exact (h1.and h2).imp (fun ⟨h3, h4⟩ => Nat.lt_of_le_of_ne h3 h4)

section
variable {bm gm cm R C g m : Nat} {ms : List UInt8} {w wr w1 w2 : World} {ban : List Int} {v : Value} {Q : List (Nat × Nat)}

theorem AR.start {c : Nat} {D : DataW Unit} (hE : EM bm gm cm R C ms w) (hN : 0 < ms.length) (hb1 : Below w.heap.size w w1) (hg1 : w1.heap[g]? = some (.cells (bz (banL ms.length ban)) 4 (0, 0))) (hg2 : w.heap.size ≤ g) (hD : MapD (w1.alloc (.map #[] 0)) w1.heap.size [] D)
    (ho2 : w2.ownsMap Tryd.prog 3 (plainElem Tryd.prog 3) w1.heap.size 1 (D.put (.int .i64 (c : Int)) (.lit (.int .i64 ((0 : Nat) : Int))))) (hgr : (w1.alloc (.map #[] 0)).grownBy w2 (some w1.heap.size)) :
    AR bm gm cm R C ms w g w1.heap.size ban (.slice (some ⟨w2.heap.size, 0, none⟩) 1 1) [(c, 0)] [(c, 0)] (w2.alloc (.cells #[natV c] 3)) := by
  have hk0 : Kept (fun _ => False) w w1 := Kept.of_below hb1 (Nat.le_refl _)
  have hk : Kept (fun k => k = w1.heap.size) w1 w2 := ((Kept.refl _ w1).alloc _).trans ((Kept.refl (fun k => k = w1.heap.size) (w1.alloc (.map #[] 0))).grown hgr (fun k e => .inl (by injection e with e; exact e.symm))) (fun _ _ h => h)
  have hk2 : Kept (fun _ => False) w2 (w2.alloc (.cells #[natV c] 3)) := (Kept.refl _ w2).alloc _
  obtain ⟨e1, t1⟩ := hE.keptX hk0 (fun _ _ => id)
  have l1 := e1.tlt hN
  have l0 := hE.tlt hN
  have s0 := hk0.size
  have s1 := hk.size
  obtain ⟨e2, t2⟩ := e1.keptX hk (fun k hk' e => by have := l1 k hk'; omega)
  obtain ⟨e3, t3⟩ := e2.keptX hk2 (fun _ _ => id)
  have hgl := blk_lt hg1
  have hgne : g ≠ w1.heap.size := by omega
  refine ⟨⟨e3, fun k hk' => .inl (t1 k (t2 k (t3 k hk'))), ?_⟩, ?_, ?_, ?_, fun k hk' => ?_, fun e => hgne e.symm, ?_, ?_, s0, hg2⟩
  · exact ((((Kept.refl (fun k => k = bm) w).trans hk0 (fun _ _ h => h.elim)).trans hk (fun i hi e => by omega)).trans hk2 (fun _ _ h => h.elim))
  · exact (MapM.put hD (by simp [met]) (by simpa using ho2)).kept hk2 id
  · have hnew := heap_alloc_new w2 (.cells #[natV c] 3)
    have := rowQ_of_cells (base := w.heap.size) (cap := 1) (ys := [c]) hnew (by omega) rfl (by simp) (by unfold maxLen; omega) (fun j hj => by
      have : j = 0 := by simp at hj; omega
      subst this
      rw [blk_cell hnew]
      rfl)
    simpa using this
  · exact (hk2.block g (by omega) id).trans ((hk.block g hgl hgne).trans hg1)
  · have h1 := l0 k (t1 k (t2 k (t3 k hk')))
    refine ⟨by omega, by omega, ?_⟩
    simp only [Value.ownBlock, ne_eq, Option.some.injEq]
    omega
  · simp only [Value.ownBlock, ne_eq, Option.some.injEq]
    have := ho2.lt
    omega
  · simp only [Value.ownBlock, ne_eq, Option.some.injEq]
    omega

theorem AR.sorted {c far : Nat} (h : AR bm gm cm R C ms w g m ban v Q Q wr) (hN : Q.length ≤ 100000) (hnd : (Q.map (·.1)).Nodup) (hm : ∀ x, met Q x ↔ ∃ n, n ≤ far ∧ Fw (outs R C ms) (banF ban) c n x) :
    Calls Tryd.prog 56 #[v] wr fun e w' => e = .returned (.tuple #[]) ∧ AroundP bm gm cm R C ms c far ban w (.returned v) w' := by
  have ho := h.own
  rw [show Q.length = (Q.map (·.1)).length by simp] at ho
  refine (sortQ_any ho (by simpa using hN)).mono ?_
  rintro e w' ⟨rfl, h1, hk⟩
  obtain ⟨h2, h3⟩ := h.ex.em.keptX hk (fun k hk => (h.dis k hk).2.2)
  refine ⟨rfl, v, _, rfl, ⟨h2, fun k hk' => h.ex.ts k (h3 k hk'), h.ex.kp.trans hk (fun i hi e => by have := (h.own.lt i e).1; omega)⟩, h1, srtQ_rise hnd, fun x => ?_⟩
  rw [srtQ_mem, ← hm x]
  unfold met
  simp
end

theorem own_shape {w : World} {base n : Nat} {v : Value} {xs : List Value} (h : w.ownsRow base 3 1 v n xs) (hn : 0 < n) : ∃ g cap, v = .slice (some ⟨g, 0, none⟩) n cap := by
  rcases h.2 with ⟨rfl, h0⟩ | ⟨g, cap, cur, rfl, _⟩
  · omega
  · exact ⟨g, cap, rfl⟩

/-- A slot's list, what Around's outer loop has. -/
def OutA (bm gm cm R C : Nat) (ms : List UInt8) (c far : Nat) (ban : List Int) (w : World) (g m : Nat) (v u : Value) (wr : World) : Prop :=
  ∃ (Q : List (Nat × Nat)) (i gq cap : Nat), i ≤ Q.length ∧ v = .slice (some ⟨gq, 0, none⟩) Q.length cap ∧ u = .int .i64 (i : Int) ∧ AR bm gm cm R C ms w g m ban v Q Q wr ∧ Qu ms.length (outs R C ms) (banF ban) c far Q i []
/-- What the inner one has. -/
def InA (bm gm cm R C : Nat) (ms : List UInt8) (c far : Nat) (ban : List Int) (w : World) (g m : Nat) (i x d : Nat) (A : Option Addr) (v u : Value) (wr : World) : Prop :=
  ∃ (Q : List (Nat × Nat)) (j gq cap : Nat), j ≤ (outs R C ms x).length ∧ v = .slice (some ⟨gq, 0, none⟩) Q.length cap ∧ u = .int .i64 (j : Int) ∧ AR bm gm cm R C ms w g m ban v Q Q wr ∧ Qu ms.length (outs R C ms) (banF ban) c far Q i ((outs R C ms x).take j) ∧ Q[i]? = some (x, d) ∧ IntsAt wr A (intsQ (outs R C ms x)) ∧ ∀ a, A = some a → a.block ≠ m ∧ v.ownBlock ≠ some a.block

set_option maxHeartbeats 4000000 in
theorem around_any {bm gm cm R C c : Nat} {ms : List UInt8} {w : World} {B : Option Addr} {ban : List Int} {cb : Nat} {far : Nat} (hE : EM bm gm cm R C ms w) (hN : 0 < ms.length) (hc : freeB ms (c : Int) = true) (hcN : c < ms.length) (hB : IntsAt w B ban) (hbm : ban.length ≤ maxLen) (hfm : (far : Int) ≤ 9223372036854775807) :
    Calls Tryd.prog 23 #[.pointer (some ⟨bm, 0, none⟩), .int .i64 (c : Int), .slice B ban.length cb, .int .i64 (far : Int)] w (AroundP bm gm cm R C ms c far ban w) := by
  have hmm := @run_makeMap Tryd.prog
  have hlen := hE.len
  have HF : Hid (Calls Tryd.prog 27 #[.pointer (some ⟨bm, 0, none⟩), .int .i64 (c : Int)] w fun e w' => e = .returned (.bool true) ∧ w = w') := by
    have := free_any bm gm cm ms (c : Int) w hE.c2 (fun j hj => hE.mark j hj)
    rw [hc] at this
    exact this
  have HM := Lib.hid (marked_any (cap := cb) hE hB hbm)
  have HE := Lib.hid hE
  have HB := Lib.hid hB
  have HFm := Lib.hid hfm
  have hfar' : decide ((far : Int) < 0) = false := decide_eq_false (by omega)
  have hkey := dkey (h := c) (by omega)
  clear hE hB hfm
  go_enter Tryd.func23, Tryd.ntmps23
  go_wp2
  go_step3
  go_wp2_with fail
  refine HF.out.mono ?_
  rintro e w' ⟨rfl, rfl⟩
  go_wp2_with fail
  refine HM.out.mono ?_
  rintro e w1 ⟨g, rfl, hg1, hg2, hb1⟩
  go_wp2_with fail
  obtain ⟨D, hD⟩ := MapM.made w1
  obtain ⟨w2, hrun, ho2, hgr2⟩ := hD.1.update dkeyed Tryd.underlying87 (by unfold maxLen; simp) hkey (plainElem_int (H := Unit) Tryd.underlying3 (dwf (h := 0) (by omega)))
  have hrun0 : (Instr.mapUpdate 87 (.map (some w1.heap.size)) (.int .i64 (c : Int)) (.int .i64 0)).run Tryd.prog (w1.alloc (.map #[] 0)) = .ok () w2 := hrun
  have HA := Lib.hid (AR.start HE.out hN hb1 hg1 hg2 hD (by simpa using ho2) hgr2)
  have HGl := Lib.hid hg2
  clear hrun ho2 hgr2 hD hg1 hg2 hb1 HM HF hmm hkey
  rw [hrun0]
  clear hrun0
  generalize w1.heap.size = m at *
  go_wp2_with fail
  have HO : Hid (OutA bm gm cm R C ms c far ban w g m (.slice (some ⟨w2.heap.size, 0, none⟩) 1 1) (.int .i64 0) (w2.alloc (.cells #[.int .i64 (c : Int)] 3))) := ⟨[(c, 0)], 0, w2.heap.size, 1, Nat.zero_le _, rfl, rfl, HA.out, Qu.start hcN⟩
  clear HA hfar'
  go_step3
  go_wp2
  go_loopw [11, 12] (fun v u wr => OutA bm gm cm R C ms c far ban w g m v u wr) (fun _ u _ => ms.length - (intOf u).toNat)
  case atStart => exact HO.out
  case round =>
    obtain ⟨Q, i, gq, cap, hi, rfl, rfl, ha, hq⟩ := hrel
    rename World => W
    clear HO
    have hql := hq.len
    have HAR := Lib.hid ha
    have HQ := Lib.hid hq
    by_cases hlt : i < Q.length
    · obtain ⟨⟨x, d⟩, hQi⟩ : ∃ a, Q[i]? = some a := ⟨_, List.getElem?_eq_getElem hlt⟩
      have hmem : (x, d) ∈ Q := List.mem_of_getElem? hQi
      obtain ⟨hxN, hdf, _⟩ := hq.lt x d hmem
      have fx : W.cell? ⟨gq, i, none⟩ = some (.int .i64 (x : Int)) := by
        rw [ha.own.cellAt i (by omega)]
        simp [hQi, natV]
      obtain ⟨D, hD⟩ := ha.mp
      have hkey := dkey (h := x) (by omega)
      have HAt : Hid (∀ z : Int, D.atKey (.int .i64 (x : Int)) (.lit (.int .i64 0)) = .lit (.int .i64 z) → z = (d : Int)) := fun z hz => hD.at_ hmem hz
      have HOW := Lib.hid hD.1
      have HQi := Lib.hid hQi
      have i1 : (i : Int) < (Q.length : Int) := by omega
      have i0 : (0 : Int) ≤ (i : Int) := by omega
      clear ha hq hD
      by_cases hdd : d = far
      · have HS := Lib.hid (HAR.out.sorted (far := far) (c := c) (by omega) HQ.out.nd (HQ.out.far_ hQi hdd))
        have e1 : ((d : Int) == (far : Int)) = true := by simp [hdd]
        clear hQi hmem HQ
        generalize hL : Q.length = L at *
        go_wp2_with (first | (go_at_call 56; fail) | (at_lookup; refine wpList_lookup_own_int _ rfl _ _ 87 rfl 3 3 .i64 dkeyed Tryd.underlying87 Tryd.underlying3 (dzero _) m L D rfl HOW.out _ _ rfl hkey ?_; intro z hat hwz; obtain rfl := HAt.out z hat; clear hat hwz))
        refine HS.out.mono ?_
        rintro e w3 ⟨rfl, hp⟩
        have HP := Lib.hid hp
        clear hp
        go_wp2
        try rw [Exit.noGoto_ret]
        go_ret
        exact HP.out
      · have e1 : ((d : Int) == (far : Int)) = false := by simp; omega
        have hnl : nextZ R C ms (x : Int) = outs R C ms x := by unfold nextZ; rw [if_pos (by omega)]; rfl
        have HNx := Lib.hid (next_x (x : Int) HAR.out.ex.em hN)
        rw [hnl] at HNx
        have HLt : Hid (d < far) := by show _ < _; omega
        have HWz : Hid (g < W.heap.size ∧ m < W.heap.size ∧ gq < W.heap.size) := ⟨blk_lt HAR.out.bans, HAR.out.mp.lt, (HAR.out.own.lt gq rfl).2⟩
        have HbM : Hid (∀ y ∈ outs R C ms x, y < ms.length) := fun y hy => by have := outs_bd hy; rw [HE.out.hN] at this; exact this
        clear hQi hmem hdd hnl
        have HQl := Lib.hid hql
        generalize hL : Q.length = L at *
        go_wp2_with (first | (go_at_call 33; fail) | (at_lookup; refine wpList_lookup_own_int _ rfl _ _ 87 rfl 3 3 .i64 dkeyed Tryd.underlying87 Tryd.underlying3 (dzero _) m L D rfl HOW.out _ _ rfl hkey ?_; intro z hat hwz; obtain rfl := HAt.out z hat; clear hat hwz))
        refine HNx.out.mono ?_
        rintro e w3 ⟨v3, rfl, hem3, hts3, hkp3, hrow3, htv3⟩
        have HX3 : Hid (EmX bm gm cm R C ms W w3) := ⟨hem3, hts3, hkp3⟩
        have HA3 := Lib.hid (HAR.out.asked HX3.out)
        obtain ⟨A, cp, rfl, hia, hav⟩ := row_ints hrow3
        have HO3 : Hid (InA bm gm cm R C ms c far ban w g m i x d A (.slice (some ⟨gq, 0, none⟩) L cap) (.int .i64 0) w3) := by
          refine ⟨Q, 0, gq, cap, Nat.zero_le _, by rw [hL], rfl, HA3.out, HQ.out, HQi.out, hia, fun a ea => ?_⟩
          have h1 := (hrow3.lt a.block (hav a ea)).1
          have h2 := HWz.out
          refine ⟨by omega, ?_⟩
          simp only [Value.ownBlock, ne_eq, Option.some.injEq]
          omega
        clear hem3 hts3 hkp3 hrow3 htv3 hia hav HNx HA3 HX3 HOW HAt HAR HQ HWz
        have HLk : Hid ((outs R C ms x).length ≤ 4) := outs_len R C ms x
        generalize hK : (outs R C ms x).length = k at *
        go_wp2
        go_loopw [11, 53] (fun v u wr => InA bm gm cm R C ms c far ban w g m i x d A v u wr) (fun _ u _ => k - (intOf u).toNat)
        case atStart => exact HO3.out
        case round =>
          obtain ⟨Q2, j, gp, cap2, hj, rfl, rfl, ha, hq, hQi, hia, hab⟩ := hrel
          have HWj : Hid (wrap64 ((j : Int) + 1) = (j : Int) + 1) := by
            show wrap64 ((j : Int) + 1) = (j : Int) + 1
            exact Go.IntWalk.wrap64_in ((j : Int) + 1) (by have := HLk.out; omega)
          have HIA := Lib.hid hia
          have HAB := Lib.hid hab
          have HA := Lib.hid ha
          have HQ2 := Lib.hid hq
          have HQ2i := Lib.hid hQi
          clear HO3
          by_cases hjl : j < k
          · have hjo : j < (outs R C ms x).length := by rw [hK]; exact hjl
            obtain ⟨a, rfl, fy⟩ := ints_at hia (j := j) (by rw [intsQ_length]; exact hjo)
            obtain ⟨y, hy⟩ : ∃ y, (outs R C ms x)[j]? = some y := ⟨_, List.getElem?_eq_getElem hjo⟩
            have hgy : (intsQ (outs R C ms x)).getD j 0 = (y : Int) := by simp [intsQ, List.getD, hy]
            rw [hgy] at fy
            have hym := List.mem_of_getElem? hy
            have hyN := HbM.out y hym
            have HTk : Hid ((outs R C ms x).take (j + 1) = (outs R C ms x).take j ++ [y]) := by
              show _ = _
              rw [List.take_add_one, hy]; rfl
            have HYm := Lib.hid hym
            obtain ⟨D2, hD2⟩ := ha.mp
            have keyy := dkey (h := y) (by omega)
            have HH := Lib.hid (hD2.2.2 y).1
            have hmem2 := List.mem_of_getElem? hQi
            have HAt2 : Hid (∀ z : Int, D2.atKey (.int .i64 (x : Int)) (.lit (.int .i64 0)) = .lit (.int .i64 z) → z = (d : Int)) := fun z hz => hD2.at_ hmem2 hz
            have HOW2 := Lib.hid hD2.1
            have HD2 := Lib.hid hD2
            have fb : wr.cell? ⟨g, y, none⟩ = some (.bool (banF ban y)) := by
              rw [blk_cell ha.bans, bz_get (by rw [banL_len]; exact hyN), banL_at hyN]
              rfl
            have j0 : (0 : Int) ≤ (j : Int) := by omega
            have j1 : (j : Int) < (k : Int) := by omega
            have y0 : (0 : Int) ≤ (y : Int) := by omega
            have y1 : (y : Int) < (ms.length : Int) := by omega
            clear hgy hy hym hD2 hmem2 ha hq hQi hia hab hjo hj
            have HPass : Hid (met Q2 y ∨ banF ban y = true → InA bm gm cm R C ms c far ban w g m i x d (some a) (.slice (some ⟨gp, 0, none⟩) Q2.length cap2) (.int .i64 ((j : Int) + 1)) wr) := fun h =>
              ⟨Q2, j + 1, gp, cap2, by rw [hK]; omega, rfl, by go_num, HA.out, by rw [HTk.out]; exact HQ2.out.pass h, HQ2i.out, HIA.out, HAB.out⟩
            have hL2 := HQ2.out.len
            have hdd := HLt.out
            have HUp : Hid (¬ met Q2 y → ∀ w4, w4.ownsMap Tryd.prog 3 (plainElem Tryd.prog 3) m (Q2.length + 1) (D2.put (.int .i64 (y : Int)) (.lit (.int .i64 ((d : Int) + 1)))) → wr.grownBy w4 (some m) → AR bm gm cm R C ms w g m ban (.slice (some ⟨gp, 0, none⟩) Q2.length cap2) (Q2 ++ [(y, d + 1)]) Q2 w4) := fun hn w4 ho hg => AR.upd HA.out HD2.out hn hg (by rw [show ((d + 1 : Nat) : Int) = (d : Int) + 1 by omega]; exact ho)
            have HAp : Hid (¬ met Q2 y → banF ban y = false → ∀ w4 w5 g2 cap5 o, wr.grownBy w4 (some m) → AR bm gm cm R C ms w g m ban (.slice (some ⟨gp, 0, none⟩) Q2.length cap2) (Q2 ++ [(y, d + 1)]) Q2 w4 → (w4.alloc o).grownBy w5 (Value.slice (some ⟨gp, 0, none⟩) Q2.length cap2).ownBlock → w5.ownsRow w.heap.size 3 1 (.slice (some ⟨g2, 0, none⟩) (Q2.length + 1) cap5) (Q2.length + 1) ((Q2.map (·.1)).map natV ++ [natV y]) → ((Value.slice (some ⟨gp, 0, none⟩) Q2.length cap2).ownBlock = some g2 ∨ g2 = w4.heap.size + 1) → InA bm gm cm R C ms c far ban w g m i x d (some a) (.slice (some ⟨g2, 0, none⟩) (Q2.length + 1) cap5) (.int .i64 ((j : Int) + 1)) w5) := by
              intro hn hb w4 w5 g2 cap5 o hg4 h4 hg5 ho5 hat5
              have hAB := HAB.out a rfl
              obtain ⟨a', ea, hal, _⟩ := HIA.out j (by rw [intsQ_length, hK]; exact hjl)
              cases ea
              have k4 : Kept (fun k => k = m) wr w4 := (Kept.refl _ wr).grown hg4 (fun k e => .inl (by injection e with e; exact e.symm))
              have k5 : Kept (fun k => (Value.slice (some ⟨gp, 0, none⟩) Q2.length cap2).ownBlock = some k) w4 w5 := ((Kept.refl _ w4).alloc o).trans ((Kept.refl (fun k => (Value.slice (some ⟨gp, 0, none⟩) Q2.length cap2).ownBlock = some k) (w4.alloc o)).grown hg5 (fun k h => .inl h)) (fun _ _ h => h)
              have l4 := k4.size
              refine ⟨Q2 ++ [(y, d + 1)], j + 1, g2, cap5, by rw [hK]; omega, by simp, by go_num, AR.app hN h4 hg5 ho5 hat5, by rw [HTk.out]; exact HQ2.out.put HQ2i.out HYm.out hyN hb hn hdd, ?_, (HIA.out.keptX k4 (fun b e => by cases e; exact hAB.1)).keptX k5 (fun b e => by cases e; exact hAB.2), fun b e => ?_⟩
              · rw [List.getElem?_append_left (by
                  have h5 := HQ2i.out
                  rcases Nat.lt_or_ge i Q2.length with h6 | h6
                  · exact h6
                  · rw [List.getElem?_eq_none h6] at h5; cases h5)]
                exact HQ2i.out
              · cases e
                refine ⟨hAB.1, fun e2 => ?_⟩
                simp only [Value.ownBlock, Option.some.injEq] at e2
                rcases hat5 with h5 | h5
                · exact hAB.2 (by rw [h5, e2])
                · omega
            have HWq := Lib.hid HA.out.own
            have HW2 : Hid (w.heap.size ≤ wr.heap.size) := HA.out.ex.kp.size
            clear HQ2 HQ2i HA HIA HAB HTk HYm hi hlt i0 i1 fx hkey
            generalize hL2e : Q2.length = L2 at *
            cases hm : metB Q2 y with
            | true =>
              have HF := Lib.hid (HPass.out (.inl (metB_true.1 hm)))
              rw [hm] at HH
              clear HPass HUp HAp
              go_wp2_with (at_lookup; refine wpList_lookup_own_ok_int _ rfl _ _ 87 rfl 3 3 .i64 dkeyed Tryd.underlying87 Tryd.underlying3 (dzero _) m L2 D2 rfl HOW2.out _ _ rfl keyy ?_; intro z hat hwz; rw [HH.out]; clear hat hwz)
              go_roundw
              case rel => rw [HWj.out]; exact HF.out
              case measure => rw [HWj.out]; simp [intOf]; omega
            | false =>
              rw [hm] at HH
              cases hb : banF ban y with
              | true =>
                have HF := Lib.hid (HPass.out (.inr hb))
                rw [hb] at fb
                clear HPass HUp HAp
                go_wp2_with (at_lookup; refine wpList_lookup_own_ok_int _ rfl _ _ 87 rfl 3 3 .i64 dkeyed Tryd.underlying87 Tryd.underlying3 (dzero _) m L2 D2 rfl HOW2.out _ _ rfl keyy ?_; intro z hat hwz; rw [HH.out]; clear hat hwz)
                go_roundw
                case rel => rw [HWj.out]; exact HF.out
                case measure => rw [HWj.out]; simp [intOf]; omega
              | false =>
                have HUp2 := Lib.hid (HUp.out (metB_false.1 hm))
                have HAp2 := Lib.hid (HAp.out (metB_false.1 hm) hb)
                rw [hb] at fb
                have hwd : IntKind.i64.wrap ((d : Int) + 1) = (d : Int) + 1 := IntWalk.i64_in _ (by have := HFm.out; omega)
                have hwf : (Lit.int .i64 ((d : Int) + 1)).wf = true := WalkArith.wf_i64 ⟨by omega, by have := HFm.out; omega⟩
                have hkx := dkey (h := x) (by omega)
                obtain ⟨i0, hi0, hz0, hz1, hz2⟩ := info_parts Tryd.infoInt
                clear HPass HUp HAp
                go_wp2_with (first | (at_lookup; refine wpList_lookup_own_ok_int _ rfl _ _ 87 rfl 3 3 .i64 dkeyed Tryd.underlying87 Tryd.underlying3 (dzero _) m L2 D2 rfl HOW2.out _ _ rfl keyy ?_; intro z hat hwz; rw [HH.out]; clear hat hwz) | (at_lookup; refine wpList_lookup_own_int _ rfl _ _ 87 rfl 3 3 .i64 dkeyed Tryd.underlying87 Tryd.underlying3 (dzero _) m L2 D2 rfl HOW2.out _ _ rfl hkx ?_; intro z hat hwz; obtain rfl := HAt2.out z hat; clear hat hwz) | (at_mapUpdate; refine wpList_mapUpdate_own _ rfl _ _ _ 87 rfl 3 3 dkeyed Tryd.underlying87 _ m L2 D2 rfl HOW2.out (by unfold maxLen; omega) _ _ _ rfl rfl keyy _ [] (plainElem_int Tryd.underlying3 hwf) ?_; intro w4 ho4 hg4; have H4 := Lib.hid (HUp2.out w4 ho4 hg4); have HO4 := Lib.hid H4.out.own; have HG4 := Lib.hid hg4; have HW4 : Hid (w.heap.size ≤ w4.heap.size) := H4.out.ex.kp.size; have HNe := Lib.hid (World.news_of_block (heap_alloc_new w4 (.cells #[.int .i64 (y : Int)] 3))); clear ho4 hg4) | (at_builtin; refine wpList_append_lies _ rfl (.tmp 78) (.tmp 80) 22 rfl w.heap.size 3 i0 (.int .i64 0) 1 8 Tryd.underlying22 hi0 hz0 hz1 hz2 rfl (by decide) (.slice (some ⟨gp, 0, none⟩) L2 cap2) L2 ((Q2.map (·.1)).map natV) rfl (by have := HO4.out; rw [hL2e] at this; exact this.alloc _) ⟨w4.heap.size, 0, none⟩ 1 1 [.int .i64 (y : Int)] rfl rfl (by have := HNe.out; simpa using this) (by intro u hu; simp at hu; subst hu; rfl) (by decide) (by unfold maxLen; omega) (by omega) (by have := HW4.out; simp; omega) (w4.heap.size + 1) (by simp) ?_; intro g2 cap5 w5 ho5 hg5 hat5 hlt5; have HF := Lib.hid (HAp2.out w4 w5 g2 cap5 _ HG4.out H4.out hg5 ho5 hat5); clear ho5 hg5 hat5 hlt5))
                go_roundw
                case rel => rw [HWj.out]; exact HF.out
                case measure => rw [HWj.out]; simp [intOf]; omega
          · have hjk : j = k := by omega
            subst hjk
            have HTa : Hid ((outs R C ms x).take j = outs R C ms x) := List.take_of_length_le (by rw [hK]; exact Nat.le_refl _)
            have HF : Hid (OutA bm gm cm R C ms c far ban w g m (.slice (some ⟨gp, 0, none⟩) Q2.length cap2) (.int .i64 ((i : Int) + 1)) wr) := by
              have h1 := HQ2.out
              rw [HTa.out] at h1
              have h5 := HQ2i.out
              have h6 : i < Q2.length := by
                rcases Nat.lt_or_ge i Q2.length with h6 | h6
                · exact h6
                · rw [List.getElem?_eq_none h6] at h5; cases h5
              exact ⟨Q2, i + 1, gp, cap2, h6, rfl, by go_num, HA.out, h1.next h5 (fun y hy _ => hy)⟩
            clear ha hq hQi hia hab HIA HAB HA HQ2 HQ2i HTa fx hkey
            generalize Q2.length = L2 at *
            go_wp2
            go_roundw
            case rel => exact HF.out
            case measure => simp [intOf]; omega
    · obtain rfl : i = Q.length := by omega
      have HS := Lib.hid (HAR.out.sorted (far := far) (c := c) (by omega) HQ.out.nd (HQ.out.all (Nat.le_refl _)))
      clear ha hq HQ hlt
      generalize hL : Q.length = L at *
      go_wp2_with (go_at_call 56; fail)
      refine HS.out.mono ?_
      rintro e w3 ⟨rfl, hp⟩
      have HP := Lib.hid hp
      clear hp
      go_wp2
      try rw [Exit.noGoto_ret]
      go_ret
      exact HP.out
end Go.Proofs.YtkedjnhidfnlkaaDoor
