/-
  segment.Plan.doors: the iterator's walk.
-/
import Derived.Test.YtekhlaodlagbdaaGreatDoorSgY
import Derived.Test.YtekhlaodlagbdaaGreatDoorRange3
namespace Go.Proofs.YtekhlaodlagbdaaGreatDoor
set_option maxRecDepth 100000
set_option linter.unusedSimpArgs false
open Go Go.RowKit

/-- What the iterator reads of a plan. -/
structure DorC (bm gm cm R C : Nat) (ms : List UInt8) (st : Sg.Pl) (p bo g gl ncell cap cl s : Nat) (l : List Nat) (w : World) : Prop where
  c0 : w.cell? ⟨p, 0, none⟩ = some (.pointer (some ⟨bm, 0, none⟩))
  c1 : w.cell? ⟨p, 1, none⟩ = some (.slice (some ⟨bo, 0, none⟩) ms.length ms.length)
  c2 : w.cell? ⟨p, 2, none⟩ = some (.slice (some ⟨g, 0, none⟩) ncell cap)
  co : ∀ a, a < ms.length → w.cell? ⟨bo, a, none⟩ = some (.int .i64 (st.of.getD a 0))
  cs : w.cell? ⟨g, s, none⟩ = some (.slice (some ⟨gl, 0, none⟩) l.length cl)
  cl : ∀ j, j < l.length → w.cell? ⟨gl, j, none⟩ = some (.int .i64 ((l.getD j 0 : Nat) : Int))
  pl : PlanS bm gm cm R C ms p st w
theorem dor_cells {bm gm cm R C : Nat} {ms : List UInt8} {p : Nat} {st : Sg.Pl} {w : World} (h : PlanS bm gm cm R C ms p st w) {s : Nat} (hs : s < st.cells.length) (hl : 0 < (st.cells.getD s []).length) :
    ∃ bo g gl cap cl, ∀ W, Below w.heap.size w W → DorC bm gm cm R C ms st p bo g gl st.cells.length cap cl s (st.cells.getD s []) W := by
  have hP := h
  obtain ⟨bo, Bs, V, vc, vk, h⟩ := h
  obtain ⟨g, cap, hvc, hgx⟩ : ∃ g c, vc = .slice (some ⟨g, 0, none⟩) st.cells.length c ∧ w.cell? ⟨g, s, none⟩ = some (V s) := by
    rcases h.pl.rc.2 with ⟨_, h1⟩ | ⟨g, cap, cur, rfl, h1, _⟩
    · omega
    · refine ⟨g, cap, rfl, ?_⟩
      rw [h.pl.rc.cellAt s (by omega)]
      simp [hs]
  obtain ⟨hr, _⟩ := h.pl.rows s hs
  obtain ⟨gl, cl, hvs⟩ : ∃ g c, V s = .slice (some ⟨g, 0, none⟩) (st.cells.getD s []).length c := by
    rcases hr.2 with ⟨_, h1⟩ | ⟨g, cap, cur, e, _⟩
    · omega
    · exact ⟨g, cap, e⟩
  refine ⟨bo, g, gl, cap, cl, fun W hb => ?_⟩
  have hk : Kept (fun _ => False) w W := Kept.of_below hb (Nat.le_refl _)
  rw [hvs] at hr hgx
  have hc := int_cells hr
  have hS := h.still hb
  exact ⟨by rw [blk_cell hS.pl.blk]; rfl, by rw [blk_cell hS.pl.blk]; rfl, by rw [blk_cell hS.pl.blk, hvc]; rfl, fun a ha => by rw [blk_cell hS.pl.of]; exact of_cell _ (by rw [h.pl.len]; omega), hk.cell hgx id, fun j hj => hk.cell (hc j hj) id, hP.still hb⟩

/-- What is told is a beginning of them all. -/
theorem dor_pre {R C : Nat} {ms : List UInt8} {st : Sg.Pl} {s : Nat} {l : List Nat} {i j : Nat} (hi : i < l.length) (hj : j < (outs R C ms (l.getD i 0)).length) (hd : (st.of.getD ((outs R C ms (l.getD i 0)).getD j 0) 0 != (s : Int)) = true) :
    (dorK R C ms st s l i ++ dorA R C ms st s (l.getD i 0) j) ++ [(l.getD i 0, (outs R C ms (l.getD i 0)).getD j 0)] <+: dorK R C ms st s l l.length := by
  have h1 := dorA_snoc (R := R) (C := C) (ms := ms) (st := st) (s := s) (l.getD i 0) hj
  rw [if_pos hd] at h1
  rw [List.append_assoc, ← h1]
  have h4 := outs_len R C ms (l.getD i 0)
  have h2 : dorA R C ms st s (l.getD i 0) (j + 1) <+: dorA R C ms st s (l.getD i 0) 4 := by
    unfold dorA
    have e : (outs R C ms (l.getD i 0)).take (j + 1) = ((outs R C ms (l.getD i 0)).take 4).take (j + 1) := by rw [List.take_take]; congr 1; omega
    rw [e]
    exact ((List.take_prefix _ _).filter _).map _
  have h3 : dorK R C ms st s l (i + 1) <+: dorK R C ms st s l l.length := by
    unfold dorK
    have e : l.take (i + 1) = (l.take l.length).take (i + 1) := by rw [List.take_take]; congr 1; omega
    rw [e]
    obtain ⟨t, ht⟩ := List.take_prefix (i + 1) (l.take l.length)
    refine ⟨t.flatMap fun a => dorA R C ms st s a 4, ?_⟩
    rw [← List.flatMap_append, ht]
  rw [dorK_snoc hi] at h3
  obtain ⟨t, ht⟩ := h2
  obtain ⟨u, hu⟩ := h3
  refine ⟨t ++ u, ?_⟩
  rw [← hu, ← ht]
  simp only [List.append_assoc]

set_option maxHeartbeats 4000000 in
theorem doors_tells (n : Nat) (hn : 1 ≤ n) {bm gm cm R C p : Nat} {ms : List UInt8} {st : Sg.Pl} {wa w0 : World} (hb : Below wa.heap.size wa w0) {bo g gl ncell cap cl bp bs q s : Nat} {l : List Nat} (hq0 : q < w0.heap.size) (hql : ∀ k, PQ q w0 k → k < w0.heap.size)
    (hS : ∀ W, Below wa.heap.size wa W → DorC bm gm cm R C ms st p bo g gl ncell cap cl s l W) (hst : st.cells.length = ncell)
    (h1 : w0.cell? ⟨bp, 0, none⟩ = some (.pointer (some ⟨p, 0, none⟩))) (h2 : w0.cell? ⟨bs, 0, none⟩ = some (.int .i64 (s : Int))) {X : Nat → Prop} (hXB : ∀ k, X k → wa.heap.size ≤ k) (n1 : ¬ X bp) (n2 : ¬ X bs)
    (hs : s < ncell) (hl0 : 0 < l.length) (hll : l.length ≤ 1024) (hlN : ∀ a ∈ l, a < ms.length) (hN : R * C = ms.length) :
    TellsP n Tryz.prog 92 #[.pointer (some ⟨bp, 0, none⟩), .pointer (some ⟨bs, 0, none⟩)] (fun x : Nat × Nat => #[.int .i64 (x.1 : Int), .int .i64 (x.2 : Int)]) (fun A B => Below A.heap.size A B) (KpQ w0.heap.size X q)
      (fun xs _ => xs = dorK R C ms st s l l.length) (fun pre x => pre ++ [x] <+: dorK R C ms st s l l.length) w0 := by
  intro y J W hW hJ hY h0
  have HJ' := Lib.hid hJ
  have HY' := Lib.hid hY
  have kW : Kept X w0 W := Kept.of_below hW (Nat.le_refl _)
  have hqW : ∀ k, PQ q W k → k < W.heap.size := fun k hk => Nat.lt_of_lt_of_le (hql k ((pq_still ((Kept.of_below (X := fun _ => False) hW (Nat.le_refl _)).block q hq0 id) k).1 hk)) hW.size
  have HSk : Hid (∀ V, Kept X w0 V → Below wa.heap.size wa V) := fun V hV => hb.trans (hV.below hXB hb.size)
  have HSS : Hid (∀ V, Kept X w0 V → DorC bm gm cm R C ms st p bo g gl ncell cap cl s l V) := fun V hV => hS V (HSk.out V hV)
  have HC : Hid (∀ V, Kept X w0 V → V.cell? ⟨bp, 0, none⟩ = some (.pointer (some ⟨p, 0, none⟩)) ∧ V.cell? ⟨bs, 0, none⟩ = some (.int .i64 (s : Int))) := fun V hV => ⟨hV.cell h1 n1, hV.cell h2 n2⟩
  have HHas : Hid (∀ V, Kept X w0 V → Calls Tryz.prog 60 #[.pointer (some ⟨p, 0, none⟩), .int .i64 (s : Int)] V fun e w' => e = .returned (.bool true) ∧ V = w') := fun V hV => phas_any (HSS.out V hV).pl (s : Int) (by unfold hasZ; rw [hst]; simp; omega)
  obtain ⟨L, hL⟩ : ∃ L, L = l.length := ⟨_, rfl⟩
  have HL := Lib.hid hL
  obtain ⟨I, hI⟩ : ∃ I : List (Nat × Nat) → World → Prop, I = fun pre V => Kept X w0 V ∧ J pre V ∧ ∀ i, PQ q V i → i < V.heap.size := ⟨_, rfl⟩
  have HII := Lib.hid hI
  have HI0 : Hid (∀ V, Below W.heap.size W V → Kept (fun _ => False) W V → I [] V) := fun V hV hk => by
    rw [hI]
    exact ⟨kW.trans hk (fun _ _ h => h.elim), hJ _ _ _ h0 hV, fun i hi => Nat.lt_of_lt_of_le (hqW i ((pq_still (hk.block q (Nat.lt_of_lt_of_le hq0 hW.size) id) i).1 hi)) hk.size⟩
  have hSW := HSS.out W kW
  have f2 := hSW.c2
  have f4 := hSW.cs
  rw [← hL] at f4
  obtain ⟨f5, f6⟩ := HC.out W kW
  have HHW := Lib.hid (HHas.out W kW)
  have q3 : (s : Int) < (ncell : Int) := by omega
  have q4 : (0 : Int) ≤ (s : Int) := by omega
  have hL' : L ≤ 1024 := by omega
  clear hW hJ hY h0 hb hql hS h1 h2 n1 n2 hs hl0 hll kW hqW hSW hI HHas hst
  refine callsIn_of_wp Tryz.func92 rfl trivial ?_ rfl
  simp only [Tryz.ntmps92, List.size_toArray, List.length_cons, List.length_nil, Nat.reduceAdd, Nat.reduceSub, Array.replicate_succ, Array.replicate_zero, List.push_toArray, List.append_toArray, List.nil_append, List.cons_append]
  gi_wp2_with fail
  refine ⟨trivial, (callsIn_wide.2 HHW.out).mono ?_⟩
  rintro e W' ⟨rfl, rfl⟩
  gi_wp2_with fail
  gi_quiet (fail)
  have HI1 := Lib.hid (HI0.out (W.drewN nq) ⟨rfl, rfl, rfl, Nat.le_refl _, fun _ _ => rfl⟩ ((Kept.refl _ W).drewN nq))
  clear HI0 f2 f4 f5 f6 HHW q3 q4
  generalize W.drewN nq = W1 at *
  gi_wp2
  gi_loopw [5, 7, 20] (fun _ _ u wr => ∃ i : Nat, i ≤ L ∧ u = .int .i64 (i : Int) ∧ I (dorK R C ms st s l i) wr) (fun _ _ u _ => L - (intOf u).toNat)
  case atStart => exact ⟨0, Nat.zero_le _, rfl, HI1.out⟩
  case round =>
    obtain ⟨i, hi, rfl, hI⟩ := hrel
    rename World => V
    by_cases hil : i < L
    · rw [HII.out] at hI
      obtain ⟨hkp, hj, hpq⟩ := hI
      have hil' : i < l.length := by rw [← HL.out]; exact hil
      have ham : l.getD i 0 ∈ l := by
        rw [show l.getD i 0 = l[i] by simp [List.getD, hil']]
        exact List.getElem_mem hil'
      have haN := hlN _ ham
      have hD := HSS.out V hkp
      have fx := hD.cl i hil'
      have f0 := hD.c0
      obtain ⟨f1, _⟩ := HC.out V hkp
      have HEd := Lib.hid hD.pl.em
      have HDd := Lib.hid hD.pl.done
      have hnx : nextZ R C ms ((l.getD i 0 : Nat) : Int) = outs R C ms (l.getD i 0) := by unfold nextZ; rw [if_pos (by omega), Int.toNat_natCast]
      have HNx := Lib.hid (hnx ▸ next_y (((l.getD i 0 : Nat) : Nat) : Int) (by omega) HEd.out)
      have HKP := Lib.hid hkp
      have HJV := Lib.hid hj
      have HPQ := Lib.hid hpq
      have HSn := Lib.hid (dorK_snoc (R := R) (C := C) (ms := ms) (st := st) (s := s) hil')
      have HPre : Hid (∀ j, j < (outs R C ms (l.getD i 0)).length → (st.of.getD ((outs R C ms (l.getD i 0)).getD j 0) 0 != (s : Int)) = true → (dorK R C ms st s l i ++ dorA R C ms st s (l.getD i 0) j) ++ [(l.getD i 0, (outs R C ms (l.getD i 0)).getD j 0)] <+: dorK R C ms st s l l.length) := fun j hj hd => dor_pre hil' hj hd
      have i0 : (i : Int) < (L : Int) := by omega
      have i1 : (0 : Int) ≤ (i : Int) := by omega
      have HRi : Hid (∀ V', I (dorK R C ms st s l (i + 1)) V' → ∃ i' : Nat, i' ≤ L ∧ Value.int .i64 ((i : Int) + 1) = .int .i64 (i' : Int) ∧ I (dorK R C ms st s l i') V') := fun V' h => ⟨i + 1, by omega, by go_num, h⟩
      clear hkp hj hpq hD hnx ham hil'
      generalize l.getD i 0 = a at *
      gi_wp2_with fail
      refine ⟨trivial, (callsIn_wide.2 HNx.out).mono ?_⟩
      rintro e w1 ⟨v1, B, rfl, hx1, hb1, hs1, _, ho1⟩
      have HB1 := Lib.hid (hx1.below HDd.out)
      have hk1 : Kept (fun _ => False) V w1 := Kept.of_below HB1.out (Nat.le_refl _)
      have hqV : q < V.heap.size := HPQ.out q (.inl rfl)
      have hI1 : I (dorK R C ms st s l i ++ dorA R C ms st s a 0) w1 := by
        rw [HII.out, dorA_zero, List.append_nil]
        exact ⟨HKP.out.trans hk1 (fun _ _ h => h.elim), HJ'.out _ _ _ HJV.out HB1.out, fun k hk => Nat.lt_of_lt_of_le (HPQ.out k ((pq_still (hk1.block q hqV id) k).1 hk)) hk1.size⟩
      obtain ⟨n2, hn2⟩ : ∃ n2, n2 = (outs R C ms a).length := ⟨_, rfl⟩
      have HN2 := Lib.hid hn2
      obtain ⟨ga, gc, rfl⟩ := row_slice ho1
      obtain ⟨Q2, hQ2⟩ : ∃ Q2 : World → Prop, Q2 = fun U => ∀ j, j < n2 → ∃ g2, ga = some ⟨g2, 0, none⟩ ∧ U.cell? ⟨g2, j, none⟩ = some (.int .i64 (((outs R C ms a).getD j 0 : Nat) : Int)) ∧ ¬ PQ q U g2 ∧ g2 < U.heap.size := ⟨_, rfl⟩
      have HQ2 := Lib.hid hQ2
      have HQK : Hid (∀ U U', Q2 U → KpQ w0.heap.size X q U U' → Q2 U') := fun U U' h1 h2 => by
        rw [hQ2] at h1 ⊢
        intro j hj
        obtain ⟨g2, e, h3, h4, h5⟩ := h1 j hj
        exact ⟨g2, e, h2.cell h3 h4, fun h => (h2.pq g2 h).elim h4 (fun h6 => by omega), Nat.lt_of_lt_of_le h5 h2.size⟩
      have hq2 : Q2 w1 := by
        rw [hQ2]
        intro j hj
        rcases ho1.2 with ⟨_, h0⟩ | ⟨g2, cap2, cur, e2, hg2, _⟩
        · omega
        · cases e2
          have hc := int_cells ho1 j (by omega)
          refine ⟨g2, rfl, hc, fun h => ?_, World.block_lt_of_cell? w1 _ hc⟩
          have := HPQ.out g2 ((pq_still (hk1.block q hqV id) g2).1 h)
          omega
      have HI2 := Lib.hid hI1
      have HQ3 := Lib.hid hq2
      have hn4 : n2 ≤ 4 := by rw [hn2]; exact outs_len R C ms a
      clear hx1 hb1 hs1 ho1 hk1 hqV hI1 hq2 hQ2 fx f0 f1 HB1
      rw [← hn2]
      clear hn2
      gi_wp2
      gi_loopw [7, 31] (fun _ u wr => ∃ j : Nat, j ≤ n2 ∧ u = .int .i64 (j : Int) ∧ I (dorK R C ms st s l i ++ dorA R C ms st s a j) wr ∧ Q2 wr) (fun _ u _ => n2 - (intOf u).toNat)
      case atStart => exact ⟨0, Nat.zero_le _, rfl, HI2.out, HQ3.out⟩
      case round =>
        obtain ⟨j, hj, rfl, hI, hQ⟩ := hrel
        rename World => U
        by_cases hjn : j < n2
        · rw [HII.out] at hI
          obtain ⟨hkp, hj', hpq⟩ := hI
          obtain ⟨g2, rfl, fy, _, _⟩ := (show ∀ j, j < n2 → _ by rw [HQ2.out] at hQ; exact hQ) j hjn
          have hjl : j < (outs R C ms a).length := by rw [← HN2.out]; exact hjn
          have hbm : (outs R C ms a).getD j 0 ∈ outs R C ms a := by
            rw [show (outs R C ms a).getD j 0 = (outs R C ms a)[j] by simp [List.getD, hjl]]
            exact List.getElem_mem hjl
          have hbN : (outs R C ms a).getD j 0 < ms.length := hN ▸ outs_bd hbm
          have hD := HSS.out U hkp
          have f0 := hD.c1
          have fz := hD.co _ hbN
          obtain ⟨f1, f2⟩ := HC.out U hkp
          have hsn := dorA_snoc (R := R) (C := C) (ms := ms) (st := st) (s := s) a hjl
          have hytf := fun hd => HY'.out _ (a, (outs R C ms a).getD j 0) U.drew (HJ'.out _ _ U.drew hj' ⟨rfl, rfl, rfl, Nat.le_refl _, fun _ _ => rfl⟩) (HPre.out j hjl hd)
          have HRn : Hid (∀ U', I (dorK R C ms st s l i ++ dorA R C ms st s a (j + 1)) U' → Q2 U' → ∃ j' : Nat, j' ≤ n2 ∧ Value.int .i64 ((j : Int) + 1) = .int .i64 (j' : Int) ∧ I (dorK R C ms st s l i ++ dorA R C ms st s a j') U' ∧ Q2 U') := fun U' h1 h2 => ⟨j + 1, by omega, by go_num, h1, h2⟩
          have j0 : (j : Int) < (n2 : Int) := by omega
          have j1 : (0 : Int) ≤ (j : Int) := by omega
          have HKU := Lib.hid hkp
          have HJU := Lib.hid hj'
          have HPU := Lib.hid hpq
          have HQU := Lib.hid hQ
          have b0 : (((outs R C ms a).getD j 0 : Nat) : Int) < (ms.length : Int) := by omega
          have b1 : (0 : Int) ≤ (((outs R C ms a).getD j 0 : Nat) : Int) := by omega
          clear hkp hj' hpq hQ hjl hbm hbN hD
          cases hd : (st.of.getD ((outs R C ms a).getD j 0) 0 != (s : Int)) with
          | false =>
            rw [hd, if_neg (by simp)] at hsn
            rw [List.append_nil] at hsn
            have hG : ∀ n, I (dorK R C ms st s l i ++ dorA R C ms st s a (j + 1)) (U.drewN n) ∧ Q2 (U.drewN n) := fun n => by
              rw [hsn, HII.out]
              refine ⟨⟨HKU.out.drewN n, HJ'.out _ _ _ HJU.out ⟨rfl, rfl, rfl, Nat.le_refl _, fun _ _ => rfl⟩, HPU.out⟩, HQK.out _ _ HQU.out ?_⟩
              exact KpQ.of_kept ((Kept.refl (fun _ => False) U).drewN n) HKU.out.size (HPU.out q (.inl rfl)) (fun _ => id)
            have HGn := Lib.hid (fun n => HRn.out _ (hG n).1 (hG n).2)
            clear hytf HRn hG hsn
            generalize st.of.getD ((outs R C ms a).getD j 0) 0 = ob at *
            generalize (outs R C ms a).getD j 0 = b at *
            gi_wp2
            refine wpIn_region_quiet_lit rfl (by kernel_rfl) (by kernel_rfl) ?_
            repeat (gi_big_quiet_step (fail))
            refine BigFrame.wpQuietIn_skip (fun _ _ _ _ => trivial) rfl ?_
            go_simp
            repeat (gi_big_quiet_step (fail))
            refine wpQuietIn_nil ?_
            intro nq
            gi_wp2
            go_roundw
            case rel => exact HGn.out _
            case measure => simp [intOf]; omega
          | true =>
            have hyt := hytf hd
            clear hytf
            rw [hd, if_pos rfl] at hsn
            have hyt2 : YieldAt Fence.wide (n - 1) Tryz.prog y #[.int .i64 (a : Int), .int .i64 (((outs R C ms a).getD j 0 : Nat) : Int)] U.drew fun e W' => e = .returned (.bool true) ∧ J (dorK R C ms st s l i ++ dorA R C ms st s a (j + 1)) W' ∧ KpQ w0.heap.size X q U.drew W' := by
              rw [hsn, ← List.append_assoc]
              exact hyt
            have HGn : Hid (∀ U', J (dorK R C ms st s l i ++ dorA R C ms st s a (j + 1)) U' → KpQ w0.heap.size X q U.drew U' → ∃ j' : Nat, j' ≤ n2 ∧ Value.int .i64 ((j : Int) + 1) = .int .i64 (j' : Int) ∧ I (dorK R C ms st s l i ++ dorA R C ms st s a j') U' ∧ Q2 U') := fun U' h1 h3 => by
              have h2 : KpQ w0.heap.size X q U U' := (KpQ.of_kept ((Kept.refl (fun _ => False) U).drew) HKU.out.size (HPU.out q (.inl rfl)) (fun _ => id)).trans h3
              refine HRn.out U' ?_ (HQK.out _ _ HQU.out h2)
              rw [HII.out]
              exact ⟨HKU.out.kpq h2, h1, h2.lt HPU.out⟩
            have HYt := Lib.hid hyt2
            clear hyt hyt2 HRn hsn
            generalize st.of.getD ((outs R C ms a).getD j 0) 0 = ob at *
            generalize (outs R C ms a).getD j 0 = b at *
            obtain ⟨fn, tmps, assign, body, hrun, hR⟩ := HYt.out
            have HR2 := Lib.hid hR
            clear hR HYt
            gi_wp2
            gi_region_with (refine HR2.out.mono ?_; rintro e U' ⟨rfl, hJ', hK'⟩)
            all_goals
              have HG := Lib.hid (HGn.out U' hJ' hK')
              clear hJ' hK'
              gi_wp2
              go_roundw
              case rel => exact HG.out
              case measure => simp [intOf]; omega
        · obtain rfl : j = n2 := by omega
          have HG := Lib.hid (HRi.out U (by rw [HSn.out, ← dorA_all a HN2.out]; exact hI))
          clear hI hQ
          gi_wp2
          go_roundw
          case rel => exact HG.out
          case measure => simp [intOf]; omega
    · obtain rfl : i = L := by omega
      rw [HII.out] at hI
      have HF : Hid ((∃ v, Ending.returned (.tuple #[]) = .returned v) ∧ J (dorK R C ms st s l l.length) V) := ⟨⟨_, rfl⟩, by rw [← HL.out]; exact hI.2.1⟩
      clear hI
      gi_wp2
      exact bodyPost_end (results_none rfl _ _ _) rfl ⟨HF.out.1, _, rfl, HF.out.2⟩
end Go.Proofs.YtekhlaodlagbdaaGreatDoor
