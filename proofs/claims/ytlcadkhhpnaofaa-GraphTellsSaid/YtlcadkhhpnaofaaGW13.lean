/-
  Strong.
-/
import Derived.Test.YtlcadkhhpnaofaaGStr
import Derived.Laws.EntriesVeiled
namespace Go.Proofs.Ytlcadkhhpnaofaa
set_option maxRecDepth 100000
open Go Go.RowKit Gq
attribute [local go_sem] Oper.semAt_some

/-- What lies ahead of both loops. -/
structure SE (w W0 : World) (R : Gr) (b' B D p3 p4 p5 pb : Nat) (S' : Nat → Prop) (v : Value) : Prop where
  g : GAt W0 b' (bkF R) S'
  gS : ¬ S' B ∧ ¬ S' D
  c3 : W0.cell? ⟨p3, 0, none⟩ = some (.pointer (some ⟨b', 0, none⟩))
  c4 : W0.cell? ⟨p4, 0, none⟩ = some (.slice (some ⟨B, 0, none⟩) R.length R.length)
  c5 : W0.cell? ⟨p5, 0, none⟩ = some (.slice (some ⟨D, 0, none⟩) R.length R.length)
  n3 : p3 ≠ B ∧ p3 ≠ D
  n4 : p4 ≠ B ∧ p4 ≠ D
  n5 : p5 ≠ B ∧ p5 ≠ D
  nb : pb ≠ B ∧ pb ≠ D
  nv : ∀ k, v.ownBlock = some k → k ≠ B ∧ k ≠ D ∧ k < W0.heap.size
  bd : B ≠ D
  lt : B < W0.heap.size ∧ D < W0.heap.size ∧ pb < W0.heap.size
  lo : w.heap.size ≤ B ∧ w.heap.size ≤ D
  be : Below w.heap.size w W0
  row : RowAt W0 v (finF R)
  hb : W0.heap[pb]? = some (.cells #[v] 34 (0, 0))
  s0 : SO W0 R B D (fun _ => False) [] W0

theorem se_start {w wr W2 : World} {R : Gr} {b' B p3 p4 : Nat} {S' : Nat → Prop} {v : Value} (h : SStart w R b' B p3 p4 S' wr)
    (hn : NewR ((wr.alloc (.cells (madeCells #[.int .i64 0] R.length) 3)).alloc (.cells #[.slice (some ⟨wr.heap.size, 0, none⟩) R.length R.length] 34)) (finF R) (.returned v) W2) :
    SE w (W2.alloc (.cells #[v] 34)) R b' B wr.heap.size p3 p4 (wr.heap.size + 1) W2.heap.size S' v := by
  obtain ⟨v', e, hr, hf, hb⟩ := hn
  cases e
  have hz : ((wr.alloc (.cells (madeCells #[.int .i64 0] R.length) 3)).alloc (.cells #[.slice (some ⟨wr.heap.size, 0, none⟩) R.length R.length] 34)).heap.size = wr.heap.size + 2 := by simp
  have hs2 := hb.size
  rw [hz] at hs2 hf
  have hs := h.be.size
  have al : ∀ (A : World) (o : Obj) (k : Nat) {x : Obj}, A.heap[k]? = some x → (A.alloc o).heap[k]? = some x := fun A o k {x} hx => (Below.heap_alloc A o k (blk_lt hx)).trans hx
  have up : ∀ k {x : Obj}, wr.heap[k]? = some x → (W2.alloc (.cells #[v] 34)).heap[k]? = some x := fun k {x} hx => al _ _ _ ((hb.block k (by have := blk_lt hx; rw [hz]; omega)).trans (al _ _ _ (al _ _ _ hx)))
  have hlB := blk_lt h.vB
  have hl3 := blk_lt h.v3
  have hl4 := blk_lt h.v4
  have hD : (W2.alloc (.cells #[v] 34)).heap[wr.heap.size]? = some (.cells (madeCells #[.int .i64 0] R.length) 3 (0, 0)) := by
    refine al _ _ _ ((hb.block _ (by rw [hz]; omega)).trans (al _ _ _ (heap_alloc_new wr _)))
  have h5 : (W2.alloc (.cells #[v] 34)).heap[wr.heap.size + 1]? = some (.cells #[.slice (some ⟨wr.heap.size, 0, none⟩) R.length R.length] 34 (0, 0)) := by
    refine al _ _ _ ((hb.block _ (by rw [hz]; omega)).trans ?_)
    have := heap_alloc_new (wr.alloc (.cells (madeCells #[.int .i64 0] R.length) 3)) (.cells #[.slice (some ⟨wr.heap.size, 0, none⟩) R.length R.length] 34)
    rwa [World.size_alloc] at this
  have hgl := h.g.lt
  have hst : Still wr (W2.alloc (.cells #[v] 34)) := ((((Kept.refl _ wr).alloc _).alloc _).trans (Kept.of_below (X := fun _ => False) hb (Nat.le_refl _)) (fun _ _ => id)).alloc _
  have hbe : Below w.heap.size w (W2.alloc (.cells #[v] 34)) := h.be.trans (hst.below (fun _ h => h.elim) hs)
  refine ⟨h.g.still hst, ⟨h.ne.2.2.2.1, fun e => by have := hgl _ e; omega⟩, ?_, ?_, ?_, ⟨fun e => h.ne.1 e.symm, by omega⟩, ⟨fun e => h.ne.2.1 e.symm, by omega⟩, by omega, by omega, fun k hk => ?_, by omega, ⟨by simp; omega, by simp; omega, by simp⟩, ⟨h.lo.1, hs⟩, hbe, hr.still ((Kept.refl _ W2).alloc _), heap_alloc_new W2 _, ⟨Kept.refl _ _, ?_, ?_, ⟨?_, ?_, ?_⟩, fun _ h => h.elim⟩⟩
  · rw [blk_cell (up _ h.v3)]; rfl
  · rw [blk_cell (up _ h.v4)]; rfl
  · rw [blk_cell h5]; rfl
  · have := hf k hk
    have h2 := hr.lt hk
    refine ⟨by omega, by omega, by simp; omega⟩
  · exact up _ h.vB
  · rw [hD]
    have e : ic (ints (sS R []).2) = madeCells #[.int .i64 0] R.length := by
      apply Array.toList_inj.1
      rw [toList_madeCells_one]
      simp [ic, ints, sS]
    rw [e]
  · show (List.replicate R.length false).length = _; simp
  · show (List.replicate R.length 0).length = _; simp
  · intro x hx
    have := List.eq_of_mem_replicate (show x ∈ List.replicate R.length 0 from hx)
    omega

set_option maxHeartbeats 8000000 in
theorem strong_gen {w : World} (p0 : Option Addr) {R : Gr} (hO : Ok R) (HL : Hid (∀ W, Below w.heap.size w W → Calls Try.prog 18 #[.pointer p0] W fun e w' => e = .returned (.int .i64 (R.length : Int)) ∧ w' = W))
    (HBk : Hid (∀ W, Below w.heap.size w W → Calls Try.prog 25 #[.pointer p0] W fun e w' => ∃ b', e = .returned (.pointer (some ⟨b', 0, none⟩)) ∧ GraphPost W (bkF R) b' w'))
    (HFn : Hid (∀ W, Below w.heap.size w W → Calls Try.prog 35 #[.pointer p0] W (NewR W (finF R)))) :
    Calls Try.prog 19 #[.pointer p0] w (NewR w (strF R)) := by
  have hn := hO.size
  have hmk := makeBools_run R.length (by omega)
  have hmk2 := makeInts_run R.length (by omega)
  have HOk := Lib.hid hO
  clear hO
  refine (callsIn_wide (n := 9)).1 ?_
  refine callsIn_of_wp_marks Try.func19 rfl trivial ?_ rfl
  simp only [Try.ntmps19, List.size_toArray, List.length_cons, List.length_nil, Nat.reduceAdd, Nat.reduceSub, Array.replicate_succ, Array.replicate_zero, List.push_toArray, List.append_toArray, List.nil_append, List.cons_append]
  gi_wp2
  refine wpIn_wide.2 ?_
  refine region_inv (SInv p0 w R) (by kernel_rfl) (by kernel_rfl) ?hsz ?hstep ?hdone ?h0
  case hsz =>
    rintro l a wr ⟨l0, l1, l2, l3, l4, l5, l6, l7, l8, _, _, _, _, _, _, _, _, _, _, _, _, _, rfl, _⟩
    rfl
  case h0 =>
    refine ⟨false, false, false, false, false, false, false, false, false, undef, undef, undef, undef, undef, undef, undef, 0, 0, 0, 0, fun _ => False, fun _ => 0, rfl, rfl, by simp, by simp, by simp, by simp, by simp, by simp, by simp, ?_⟩
    exact ⟨(Below.refl _ w).drew, fun k h => absurd rfl h, by simp, by simp, by simp, by simp, by simp, by simp, by simp, by simp⟩
  case hdone =>
    rintro l a wr ⟨l0, l1, l2, l3, l4, l5, l6, l7, l8, x3, x4, x9, x10, x11, x12, x13, b', B, p3, p4, S', c, rfl, rfl, q0, q1, q2, q3, q4, q5, q6, hS⟩ hall
    obtain rfl : l0 = true := hall 0 (by decide)
    obtain rfl : l1 = true := hall 1 (by decide)
    obtain rfl : l2 = true := hall 2 (by decide)
    obtain rfl : l3 = true := hall 3 (by decide)
    obtain rfl : l4 = true := hall 4 (by decide)
    obtain rfl : l5 = true := hall 5 (by decide)
    obtain rfl : l6 = true := hall 6 (by decide)
    obtain rfl : l7 = true := hall 7 (by decide)
    obtain rfl : l8 = true := hall 8 (by decide)
    obtain rfl := q0 rfl
    obtain rfl := q1 rfl
    obtain rfl := q2 rfl
    obtain rfl := q3 rfl
    obtain rfl := q4 rfl
    obtain rfl := q5 rfl
    obtain rfl := q6 rfl
    have HS := Lib.hid hS.start
    have hbe := hS.be
    have HBE := Lib.hid hbe
    have hsz := hbe.size
    clear hS hall q0 q1 q2 q3 q4 q5 q6 hbe HBk
    gi_wp2_with fail
    refine ⟨trivial, (callsIn_wide.2 (HL.out _ HBE.out)).mono ?_⟩
    rintro e w' ⟨rfl, hw⟩
    obtain rfl := hw.symm
    gi_wp2_with fail
    refine ⟨trivial, (callsIn_wide.2 (HFn.out _ ((HBE.out.alloc hsz _).alloc (by simp; omega) _))).mono ?_⟩
    rintro e W2 hnew
    have hnew' := hnew
    obtain ⟨v, rfl, hv, _, _⟩ := hnew'
    obtain ⟨P, cap, rfl, _, _, _, _⟩ := hv.form
    have HE := Lib.hid (se_start HS.out hnew)
    clear hnew hv
    gi_wp2_with fail
    refine ⟨trivial, (callsIn_wide.2 (back_it_any _ _ _ _)).mono ?_⟩
    rintro e w' ⟨rfl, hw⟩
    obtain rfl := hw.symm
    gi_wp2_with fail
    revert HE
    generalize hvv : Value.slice P (finF R).length cap = v
    clear hvv
    generalize W2.alloc (.cells #[v] 34) = W0
    generalize W2.heap.size = pb
    generalize wr.heap.size + 1 = p5
    generalize wr.heap.size = D
    intro HE
    clear HL HFn HBE HS hsz hmk hmk2
    have hlt := HE.out.lt
    obtain ⟨n, hnR⟩ : ∃ n, n = R.length := ⟨_, rfl⟩
    rw [← hnR] at hn ⊢
    have HN := Lib.hid hnR
    clear hnR
    have hX : ∀ k, (k = pb ∨ v.ownBlock = some k) → k ≠ B ∧ k ≠ D ∧ k < W0.heap.size := by
      rintro k (rfl | hk)
      · exact ⟨HE.out.nb.1, HE.out.nb.2, hlt.2.2⟩
      · exact HE.out.nv k hk
    have HX := Lib.hid hX
    have hfl : (finF R).length ≤ 100000 := by have := fin_len HOk.out; have := HOk.out.size; omega
    refine range_wide (by omega) (gf := 47) (lb := #[.pointer (some ⟨pb, 0, none⟩)]) rfl (enters_of Try.func47 (by kernel_rfl) rfl)
      (encs := fun x : Nat × Nat => #[.int .i64 (x.1 : Int), .int .i64 (x.2 : Int)]) (fun _ => rfl)
      (back_tells (9 - 1) (by omega) HE.out.row hfl HE.out.hb) (Below.refl _ _) (fun k hk => (hX k hk).2.2) (fun _ h => h.elim)
      (SO W0 R B D) (fun G => SO.own G) (fun _ _ _ _ _ h hs => h.stp hlt.1 hlt.2.1 hs) ?hS HE.out.s0
      (fun x a' W => ∃ Bx, W0.heap.size ≤ Bx ∧ W.heap[Bx]? = some (.cells #[.int .i64 (x.2 : Int)] 3 (0, 0)) ∧ a' = { tmps := #[.pointer p0, undef, .slice none 0 0, .pointer (some ⟨p3, 0, none⟩), .pointer (some ⟨p4, 0, none⟩), .pointer (some ⟨p5, 0, none⟩), undef, .pointer (some ⟨Bx, 0, none⟩), undef, .pointer p0, .pointer (some ⟨b', 0, none⟩), .pointer p0, .int .i64 (n : Int), .slice (some ⟨B, 0, none⟩) n n, .pointer p0, .int .i64 (n : Int), .slice (some ⟨D, 0, none⟩) n n, .pointer p0, v,
        .func (.func 47) #[] #[.pointer (some ⟨pb, 0, none⟩)], .int .i64 (x.1 : Int), .int .i64 (x.2 : Int), undef, undef, undef, undef, undef, undef, undef, undef, undef, undef, undef, undef, undef, undef, undef, undef], defers := [] })
      ?hAx ?assign ?body ?done
    case hS => exact fun _ _ _ _ _ _ _ _ => trivial
    case hAx =>
      rintro x a' _ X Y row ⟨Bx, h1, h2, h3⟩ hg hr
      exact ⟨Bx, h1, blk_own hg hr h2, h3⟩
    case assign =>
      intro l G pre x W K hI hK
      have hs0 := hI.k.size
      gi_wp2
      refine hK _ _ ?_ ?_ ?_ ⟨W.heap.size, hs0, heap_alloc_new W _, rfl⟩
      · exact (KeepsOthers.alloc _ _).from _
      · exact KeepB.of_kept ((Kept.refl (fun _ => False) W).alloc _) (fun _ _ _ => id)
      · exact (SO.own G).alloc _ hI
    case body =>
      rintro l G pre x a' W hl ⟨r0, hr0⟩ hI ⟨Bx, hBx, hbx, rfl⟩ hpre
      have hxl : x.2 < n := by
        rw [HN.out]
        apply fin_lt HOk.out
        rw [← List.mem_reverse, ← bkw_snd]
        exact List.mem_map.2 ⟨x, hpre.subset (by simp), rfl⟩
      have d3 := hI.k.cell HE.out.c3 (fun e => e.elim HE.out.n3.1 HE.out.n3.2)
      have d4 := hI.k.cell HE.out.c4 (fun e => e.elim HE.out.n4.1 HE.out.n4.2)
      rw [← HN.out] at d4
      have d7 : W.cell? ⟨Bx, 0, none⟩ = some (.int .i64 (x.2 : Int)) := by rw [blk_cell hbx]; rfl
      have mB := blk_cell hI.m x.2
      rw [bs_get (by rw [hI.l.1, ← HN.out]; exact hxl)] at mB
      have hst := sS_snoc R pre x
      have hlN := hI.l.next HOk.out (x := x.2) (by rw [← HN.out]; exact hxl)
      have HI := Lib.hid hI
      have HST := Lib.hid hst
      have HLN := Lib.hid hlN
      have HPRE := Lib.hid hpre
      clear hI hst hlN hpre
      obtain ⟨x1, hx⟩ := x
      simp only at *
      cases hmt : mtb (sS R pre).1 hx with
      | true =>
        rw [hmt] at mB
        have HQ : Hid (roundEnd W0.heap.size (fun k => k = pb ∨ v.ownBlock = some k) G (SO W0 R B D) (pre ++ [(x1, hx)]) W .normal { tmps := #[], defers := [] } W) := by
          have e : sS R (pre ++ [(x1, hx)]) = sS R pre := by
            rw [HST.out]
            unfold strN
            rw [if_pos hmt]
          refine ⟨KeepsFrom.refl _ _, KeepB.refl _ _, HI.out.k, ?_, ?_, ?_, HI.out.g⟩
          · rw [e]; exact HI.out.m
          · rw [e]; exact HI.out.h
          · rw [e]; exact HI.out.l
        clear hmt
        gi_wp2
        exact HQ.out
      | false =>
        rw [hmt] at mB
        have H7 : Hid (1 ≤ 9 - 1 - 1) := by show 1 ≤ 9 - 1 - 1; omega
        gi_wp2_with fail
        first | refine ⟨trivial, (CallsIn.inRound l (callsIn_wide.2 (gsearch_any _ _ _ _ _ _))).mono ?_⟩ | refine ⟨trivial, fun _ => H7.out, (CallsIn.inRound l (callsIn_wide.2 (gsearch_any _ _ _ _ _ _))).mono ?_⟩
        rintro e w' ⟨rfl, hw⟩
        obtain rfl := hw.symm
        gi_wp2_with fail
        obtain ⟨W1, hW1⟩ : ∃ W1, W1 = ((W.alloc (.cells #[.pointer (some ⟨b', 0, none⟩)] 23)).alloc (.cells #[.int .i64 (hx : Int)] 3)).alloc (.cells #[.slice (some ⟨B, 0, none⟩) n n] 53) := ⟨_, rfl⟩
        rw [← hW1]
        have HI0 := HI.out
        have hsW := HI0.k.size
        have hz1 : W1.heap.size = W.heap.size + 3 := by rw [hW1]; simp
        have hk1 : Still W W1 := by rw [hW1]; exact (((Kept.refl _ W).alloc _).alloc _).alloc _
        have hgW : GAt W1 b' (bkF R) S' := (HE.out.g.kept HI0.k (fun k hk e => e.elim (fun e => HE.out.gS.1 (e ▸ hk)) (fun e => HE.out.gS.2 (e ▸ hk)))).still hk1
        have hSl : ∀ k, S' k → k < W0.heap.size := HE.out.g.lt
        have hmB : W1.heap[B]? = some (.cells (bs (sS R pre).1) 4 (0, 0)) := (hk1.block _ (blk_lt HI0.m) id).trans HI0.m
        have hhD : W1.heap[D]? = some (.cells (ic (ints (sS R pre).2)) 3 (0, 0)) := (hk1.block _ (blk_lt HI0.h) id).trans HI0.h
        have al : ∀ (A : World) (o : Obj) (k : Nat) {x : Obj}, A.heap[k]? = some x → (A.alloc o).heap[k]? = some x := fun A o k {x} hx => (Below.heap_alloc A o k (blk_lt hx)).trans hx
        have nw : ∀ (A : World) (o : Obj) (k : Nat), k = A.heap.size → (A.alloc o).heap[k]? = some o := fun A o k e => by rw [e]; exact heap_alloc_new A o
        have c1 : W1.cell? ⟨W.heap.size + 2, 0, none⟩ = some (.slice (some ⟨B, 0, none⟩) (bkF R).length (bkF R).length) := by
          rw [hW1, blk_cell (nw _ _ _ (by simp)), bkF_length, ← HN.out]; rfl
        have c2 : W1.cell? ⟨W.heap.size + 1, 0, none⟩ = some (.int .i64 (hx : Int)) := by
          rw [hW1, blk_cell (al _ _ _ (nw _ _ _ (by simp)))]; rfl
        have c3 : W1.cell? ⟨W.heap.size, 0, none⟩ = some (.pointer (some ⟨b', 0, none⟩)) := by
          rw [hW1, blk_cell (al _ _ _ (al _ _ _ (nw _ _ _ rfl)))]; rfl
        have hr1 : W1.heap[l]? = some (.loop r0) := (hk1.block _ (blk_lt hr0) id).trans hr0
        have d5 : W1.cell? ⟨p5, 0, none⟩ = some (.slice (some ⟨D, 0, none⟩) n n) := by
          rw [HN.out]
          exact hk1.cell (HI0.k.cell HE.out.c5 (fun e => e.elim HE.out.n5.1 HE.out.n5.2)) id
        have d7' := hk1.cell d7 id
        have hBs := hlt.1
        have hDs := hlt.2.1
        have hlv := tells_lv (bkF_ok HOk.out) (M0 := (sS R pre).1) (a := hx) (by rw [bkF_length, ← HN.out]; exact hxl) (by rw [bkF_length]; exact HI0.l.1) hmt
        have hxs : ∀ pre' x', pre' ++ [x'] <+: tells (bkF R) (sS R pre).1 hx → x'.1 < n := by
          rintro pre' x' ⟨r, hr⟩
          obtain ⟨far, hlv⟩ := hlv
          have := (hlv.new x'.1 (List.mem_append.2 (.inl (List.mem_map.2 ⟨x', by rw [← hr]; simp, rfl⟩)))).2
          rw [bkF_length, ← HN.out] at this
          exact this
        have HXS := Lib.hid hxs
        have e2 : sS R (pre ++ [(x1, hx)]) = (metN (bkF R) (sS R pre).1 hx, hdL (tells (bkF R) (sS R pre).1 hx) hx (sS R pre).2) := by
          rw [HST.out]
          unfold strN
          rw [if_neg (by simp [hmt])]
        have HE2 := Lib.hid e2
        clear hxs hlv e2
        have hX1 : ∀ k, (S' k ∨ k = W.heap.size + 2 ∨ k = W.heap.size + 1 ∨ k = W.heap.size) → k < W1.heap.size ∧ k ≠ B ∧ k ≠ D := by
          rintro k (h | h | h | h)
          · have := hSl k h
            exact ⟨by omega, fun e => HE.out.gS.1 (e ▸ h), fun e => HE.out.gS.2 (e ▸ h)⟩
          · omega
          · omega
          · omega
        have HX1 := Lib.hid hX1
        refine range_nested (l₀ := l) (r₀ := r0) hr1 (by omega) (gf := 44) (lb := #[.pointer (some ⟨W.heap.size + 2, 0, none⟩), .pointer (some ⟨W.heap.size + 1, 0, none⟩), .pointer (some ⟨W.heap.size, 0, none⟩)]) rfl (enters_of Try.func44 (by kernel_rfl) rfl)
          (encs := fun x : Nat × Nat => #[.int .i64 (x.1 : Int), .int .i64 (x.2 : Int)]) (fun _ => rfl)
          (search_tells (9 - 1 - 1 - 1) (by omega) hgW (bkF_ok HOk.out) (by rw [bkF_length, ← HN.out]; exact hxl) (by rw [bkF_length]; exact HI0.l.1) hmB c1 c2 c3 (by
            intro h
            exact (hX1 B h).2.1 rfl)) (Below.refl _ _) (fun k hk => (hX1 k hk).1) (by rintro k rfl; omega)
          (SN W1 B D hx (sS R pre).2) (fun G => SN.own G) (fun _ _ _ _ _ h hs => h.stp HE.out.bd (by omega) hs) ?hS2 ⟨Kept.refl _ _, hhD, fun k hk => .inl hk⟩
          (fun x a' _ => a' = { tmps := #[.pointer p0, undef, .slice none 0 0, .pointer (some ⟨p3, 0, none⟩), .pointer (some ⟨p4, 0, none⟩), .pointer (some ⟨p5, 0, none⟩), undef, .pointer (some ⟨Bx, 0, none⟩), .int .i64 (x.1 : Int), .pointer p0, .pointer (some ⟨b', 0, none⟩), .pointer p0, .int .i64 (n : Int), .slice (some ⟨B, 0, none⟩) n n, .pointer p0, .int .i64 (n : Int), .slice (some ⟨D, 0, none⟩) n n, .pointer p0, v,
            .func (.func 47) #[] #[.pointer (some ⟨pb, 0, none⟩)], .int .i64 (x1 : Int), .int .i64 (hx : Int), .slice (some ⟨B, 0, none⟩) n n, .int .i64 (hx : Int), .pointer (some ⟨B, hx, none⟩), .bool false, .pointer (some ⟨b', 0, none⟩), .int .i64 (hx : Int), .slice (some ⟨B, 0, none⟩) n n, .func (.func 44) #[] #[.pointer (some ⟨W.heap.size + 2, 0, none⟩), .pointer (some ⟨W.heap.size + 1, 0, none⟩), .pointer (some ⟨W.heap.size, 0, none⟩)], .int .i64 (x.1 : Int), .int .i64 (x.2 : Int), undef, undef, undef, undef, undef, undef], defers := [] })
          ?hAx2 ?assign2 ?body2 ?done2
        case hS2 =>
          intro G' _ A B' row h hg hr
          exact blk_own hg hr h
        case hAx2 => exact fun _ _ _ _ _ _ h _ _ => h
        case assign2 =>
          intro l' G' pre' x' W' K hI' hK
          gi_wp2
          exact hK _ _ (KeepsFrom.refl _ _) (KeepB.refl _ _) hI' rfl
        case body2 =>
          rintro l' G' pre' x' a' W' hl' _ hI' rfl hpre'
          have hxn := HXS.out pre' x' hpre'
          have f5 := hI'.k.cell d5 (fun e => e.elim HE.out.n5.1 HE.out.n5.2)
          have f7 := hI'.k.cell d7' (by intro e; rcases e with e | e <;> (simp only at e; omega))
          have hhl : (ints (hdL pre' hx (sS R pre).2)).length = n := by rw [ints_length, hdL_length, HI0.l.2.1, HN.out]
          have fD : ∃ u, W'.cell? ⟨D, x'.1, none⟩ = some u := ⟨_, by rw [blk_cell hI'.h]; exact ic_get (by rw [hhl]; exact hxn)⟩
          obtain ⟨u, fD⟩ := fD
          have fF := blk_free hI'.h x'.1
          have HQ : Hid (roundEnd W1.heap.size (fun k => S' k ∨ k = W.heap.size + 2 ∨ k = W.heap.size + 1 ∨ k = W.heap.size) G' (SN W1 B D hx (sS R pre).2) (pre' ++ [x']) W' .normal { tmps := #[], defers := [] } (W'.setCell ⟨D, x'.1, none⟩ (.int .i64 (hx : Int)))) := by
            have hk : Kept (fun k => k = D) W' (W'.setCell ⟨D, x'.1, none⟩ (.int .i64 (hx : Int))) := (Kept.refl (fun k => k = D) W').setCell (p := ⟨D, x'.1, none⟩) (.inl rfl) _
            refine ⟨(KeepsOthers.setCell _ _ _).from _, KeepB.of_kept hk ?_, hI'.store x'⟩
            rintro k h _ rfl
            rcases h with h | h
            · exact (HX1.out _ h).2.2 rfl
            · rcases hI'.g _ h with h1 | h1
              · exact HE.out.bd h1.symm
              · omega
          obtain ⟨y1, y2⟩ := x'
          simp only at *
          clear hI' hpre' hhl
          gi_wp2
          exact HQ.out
        case done2 =>
          rintro G' W' hS hI'
          have hkW : Kept (fun k => k = B ∨ k = D) W W' := (hk1.mono (Y := fun k => k = B ∨ k = D) (fun _ _ h => h.elim)).trans hI'.k (fun _ _ h => h)
          have HQ : Hid (roundEnd W0.heap.size (fun k => k = pb ∨ v.ownBlock = some k) G (SO W0 R B D) (pre ++ [(x1, hx)]) W .normal { tmps := #[], defers := [] } W') := by
            refine ⟨keeps_of hkW hBs hDs, KeepB.of_kept hkW ?_, HI0.k.trans hkW (fun _ _ h => h), ?_, ?_, ?_, HI0.g⟩
            · rintro k hk _ e
              rcases hk with hk | hk
              · exact e.elim (HX.out k hk).1 (HX.out k hk).2.1
              · have := HI0.g k hk
                rcases e with e | e <;> omega
            · rw [HE2.out]; exact hS
            · rw [HE2.out]; exact hI'.h
            · rw [HST.out]; exact HLN.out
          clear hS hI' hkW
          gi_wp2
          exact HQ.out
    case done =>
      rintro D' G W hD' _ hI hK
      have d5 := hI.k.cell HE.out.c5 (fun e => e.elim HE.out.n5.1 HE.out.n5.2)
      rw [← HN.out] at d5
      have hlh : (sS R (bkw (finF R))).2.length = n := by rw [hI.l.2.1, HN.out]
      have hisl : IsL W (.slice (some ⟨D, 0, none⟩) n n) (ints (sS R (bkw (finF R))).2) := by
        have := isL_of (c := n) hI.h
        rw [ints_length, hlh] at this
        exact this
      have HC := Lib.hid (numbered_any hisl (by omega) hI.l.2.2)
      have hbW : Below w.heap.size w W := HE.out.be.trans (hI.k.below (by rintro k (rfl | rfl); exact HE.out.lo.1; exact HE.out.lo.2) HE.out.be.size)
      have HQ : Hid (∀ e W2, NewR W (numF (sS R (bkw (finF R))).2) e W2 → ∃ u, e = .returned u ∧ W2.heap[D']? = some (.deferred (some [])) ∧ NewR w (strF R) (.returned u) (W2.putObj D' (.deferred none))) := by
        rintro e W2 ⟨u, rfl, hr, hf, hb⟩
        have hDl := blk_lt hK
        have hs := hbW.size
        refine ⟨u, rfl, (hb.block D' hDl).trans hK, u, rfl, ?_, fun k hk => Nat.le_trans hs (hf k hk), ?_⟩
        · rw [sS_all]
          exact hr.blocks (fun g hg => World.putObj_heap_other (fun e => by have := hf g hg; omega))
        · have h5 := hbW.trans (hb.mono hs)
          have hkD : Kept (fun k => some D' = some k) W2 (W2.putObj D' (.deferred none)) := (Kept.refl (fun k => some D' = some k) W2).grown (grownBy_putObj' W2 D' (.deferred none)) (fun _ h => .inl h)
          refine h5.trans (hkD.below (fun k h => ?_) h5.size)
          have : D' = k := by simpa using h
          have := HE.out.be.size
          omega
      clear hI hbW hisl hlh
      gi_wp2_with fail
      refine ⟨trivial, (callsIn_wide.2 HC.out).mono ?_⟩
      intro e W2 hq
      obtain ⟨u, rfl, q2, q3⟩ := HQ.out e W2 hq
      have HQ3 := Lib.hid q3
      clear hq q3 HQ HC
      gi_wp2
      refine ⟨by simp, .inl ⟨_, _, rfl, run_takeDeferred q2, ?_⟩⟩
      exact ⟨_, results_tmp (t := 2) rfl _ _ _, HQ3.out⟩
  case hstep =>
    rintro l a wr i o ⟨l0, l1, l2, l3, l4, l5, l6, l7, l8, x3, x4, x9, x10, x11, x12, x13, b', B, p3, p4, S', c, rfl, rfl, q0, q1, q2, q3, q4, q5, q6, hS⟩ hl ho haft
    have hi9 : i < 9 := (Array.getElem?_eq_some_iff.1 ho).1
    rcases (by omega : i = 0 ∨ i = 1 ∨ i = 2 ∨ i = 3 ∨ i = 4 ∨ i = 5 ∨ i = 6 ∨ i = 7 ∨ i = 8) with rfl | rfl | rfl | rfl | rfl | rfl | rfl | rfl | rfl
    all_goals (simp only [List.getElem?_toArray, List.getElem?_cons_zero, List.getElem?_cons_succ, Option.some.injEq] at ho; subst ho)
    · -- 0
      go_simp
      exact ⟨true, l1, l2, l3, l4, l5, l6, l7, l8, x3, x4, _, x10, x11, x12, x13, b', B, p3, p4, S', c, rfl, rfl, fun _ => rfl, q1, q2, q3, q4, q5, q6, hS⟩
    · -- 1
      obtain rfl : l1 = false := hl
      obtain rfl : l0 = true := haft ⟨0, .data⟩ (by simp) rfl
      obtain rfl := q0 rfl
      have H7 : Hid (l7 = false) := by
        cases l7 with
        | false => rfl
        | true => exact absurd (hS.d7 rfl) (by decide)
      have HC := Lib.hid (HBk.out wr hS.be)
      go_simp
      refine HC.out.mono ?_
      rintro e w1 ⟨b1, rfl, hg⟩
      obtain ⟨S1, c', hS1⟩ := hS.back H7.out hg
      exact ⟨true, true, l2, l3, l4, l5, l6, l7, l8, x3, x4, _, _, x11, x12, x13, b1, B, p3, p4, S1, c', rfl, rfl, q0, fun _ => rfl, q2, q3, q4, q5, q6, hS1⟩
    · -- 2
      go_simp
      exact ⟨l0, l1, true, l3, l4, l5, l6, l7, l8, x3, x4, x9, x10, _, x12, x13, b', B, p3, p4, S', c, rfl, rfl, q0, q1, fun _ => rfl, q3, q4, q5, q6, hS⟩
    · -- 3
      obtain rfl : l2 = true := haft ⟨2, .data⟩ (by simp) rfl
      obtain rfl := q2 rfl
      have HC := Lib.hid (HL.out wr hS.be)
      go_simp
      refine HC.out.mono ?_
      rintro e w1 ⟨rfl, hw⟩
      obtain rfl := hw.symm
      exact ⟨l0, l1, true, true, l4, l5, l6, l7, l8, x3, x4, x9, x10, _, _, x13, b', B, p3, p4, S', c, rfl, rfl, q0, q1, q2, fun _ => rfl, q4, q5, q6, hS⟩
    · -- 4
      obtain rfl : l4 = false := hl
      obtain rfl : l3 = true := haft ⟨3, .data⟩ (by simp) rfl
      obtain rfl := q3 rfl
      have H8 : Hid (l8 = false) := by
        cases l8 with
        | false => rfl
        | true => exact absurd (hS.d8 rfl) (by decide)
      go_simp
      exact ⟨l0, l1, l2, true, true, l5, l6, l7, l8, x3, x4, x9, x10, x11, _, _, b', wr.heap.size, p3, p4, S', _, rfl, rfl, q0, q1, q2, q3, fun _ => rfl, q5, q6, hS.make H8.out⟩
    · -- 5
      obtain rfl : l5 = false := hl
      have H7 : Hid (l7 = false) := by
        cases l7 with
        | false => rfl
        | true => exact absurd (hS.e7 rfl) (by decide)
      go_simp
      exact ⟨l0, l1, l2, l3, l4, true, l6, l7, l8, _, x4, x9, x10, x11, x12, x13, b', B, wr.heap.size, p4, S', _, rfl, rfl, q0, q1, q2, q3, q4, fun _ => rfl, q6, hS.alloc5 H7.out⟩
    · -- 6
      obtain rfl : l6 = false := hl
      have H8 : Hid (l8 = false) := by
        cases l8 with
        | false => rfl
        | true => exact absurd (hS.e8 rfl) (by decide)
      go_simp
      exact ⟨l0, l1, l2, l3, l4, l5, true, l7, l8, x3, _, x9, x10, x11, x12, x13, b', B, p3, wr.heap.size, S', _, rfl, rfl, q0, q1, q2, q3, q4, q5, fun _ => rfl, hS.alloc6 H8.out⟩
    · -- 7
      obtain rfl : l5 = true := haft ⟨5, .data⟩ (by simp) rfl
      obtain rfl : l1 = true := haft ⟨1, .data⟩ (by simp) rfl
      obtain rfl := q5 rfl
      obtain rfl := q1 rfl
      have c3 : ∃ u, wr.cell? ⟨p3, 0, none⟩ = some u := ⟨_, by rw [blk_cell (hS.v3 rfl).2]; rfl⟩
      obtain ⟨u, c3⟩ := c3
      have f3 := blk_free (hS.v3 rfl).2 0
      go_simp
      exact ⟨l0, true, l2, l3, l4, true, l6, true, l8, _, x4, x9, _, x11, x12, x13, b', B, p3, p4, S', c, rfl, rfl, q0, q1, q2, q3, q4, q5, q6, hS.store7⟩
    · -- 8
      obtain rfl : l6 = true := haft ⟨6, .data⟩ (by simp) rfl
      obtain rfl : l4 = true := haft ⟨4, .data⟩ (by simp) rfl
      obtain rfl := q6 rfl
      obtain rfl := q4 rfl
      have c4 : ∃ u, wr.cell? ⟨p4, 0, none⟩ = some u := ⟨_, by rw [blk_cell (hS.v4 rfl).2]; rfl⟩
      obtain ⟨u, c4⟩ := c4
      have f4 := blk_free (hS.v4 rfl).2 0
      go_simp
      exact ⟨l0, l1, l2, l3, true, l5, true, l7, true, x3, _, x9, x10, x11, x12, _, b', B, p3, p4, S', c, rfl, rfl, q0, q1, q2, q3, q4, q5, q6, hS.store8⟩

theorem strong_any {w : World} {b : Nat} {R : Gr} {S : Nat → Prop} (h : GAt w b R S) (hO : Ok R) :
    Calls Try.prog 19 #[.pointer (some ⟨b, 0, none⟩)] w (NewR w (strF R)) :=
  strong_gen _ hO (fun _ hb => len_any (h.below hb (Nat.le_refl _))) (fun _ hb => back_any (h.below hb (Nat.le_refl _)) hO) (fun _ hb => finished_any (h.below hb (Nat.le_refl _)) hO)

/-! None has no nodes. -/
theorem back_nil (w : World) : Calls Try.prog 25 #[.pointer none] w fun e w' => ∃ b', e = .returned (.pointer (some ⟨b', 0, none⟩)) ∧ GraphPost w [] b' w' := by
  have hmk := makeRows_run 0 (by omega)
  have HS : Hid (∀ t, GraphPost w [] (w.heap.size + 1) ((w.alloc (.cells (madeCells #[.slice none 0 0] 0) 34)).alloc (.cells #[.slice (some ⟨w.heap.size, 0, none⟩) 0 0] t))) := by
    intro t
    refine ⟨_, gat_new (n := 0) (g := w.heap.size) (t := t) ?_ ?_ (by omega) (by omega), fun k h => ?_, ((Below.refl _ w).alloc (Nat.le_refl _) _).alloc (by simp) _⟩
    · rw [Below.heap_alloc _ _ _ (by simp)]; exact heap_alloc_new w _
    · have := heap_alloc_new (w.alloc (.cells (madeCells #[.slice none 0 0] 0) 34)) (.cells #[.slice (some ⟨w.heap.size, 0, none⟩) 0 0] t); rwa [World.size_alloc] at this
    · rcases h with rfl | rfl <;> omega
  have hmk0 : ∀ w : World, (Instr.makeSlice 47 (.int .i64 0) (.int .i64 0)).run Try.prog w = .ok (.slice (some ⟨w.heap.size, 0, none⟩) 0 0) (w.alloc (.cells (madeCells #[.slice none 0 0] 0) 34)) := hmk
  clear hmk
  go_enter Try.func25, Try.ntmps25
  go_wp2_with fail
  refine (len_nil _).mono ?_
  rintro e w' ⟨rfl, hw⟩
  obtain rfl := hw.symm
  go_wp2_with fail
  refine (len_nil _).mono ?_
  rintro e w' ⟨rfl, hw⟩
  obtain rfl := hw.symm
  clear hmk0
  go_wp2
  refine wp_loop_rounds 1 ?_
  rw [rounds_succ]
  go_wp2
  go_ret
  exact ⟨_, rfl, HS.out _⟩
theorem finished_nil (w : World) : Calls Try.prog 35 #[.pointer none] w (NewR w (finF [])) := by
  have hmk0 : ∀ w : World, (Instr.makeSlice 53 (.int .i64 0) (.int .i64 0)).run Try.prog w = .ok (.slice (some ⟨w.heap.size, 0, none⟩) 0 0) (w.alloc (.cells (madeCells #[.bool false] 0) 4)) := makeBools_run 0 (by omega)
  go_enter Try.func35, Try.ntmps35
  go_wp2_with fail
  refine (len_nil _).mono ?_
  rintro e w' ⟨rfl, hw⟩
  obtain rfl := hw.symm
  go_wp2_with fail
  refine (len_nil _).mono ?_
  rintro e w' ⟨rfl, hw⟩
  obtain rfl := hw.symm
  clear hmk0
  go_wp2
  refine wp_loop_rounds 1 ?_
  rw [rounds_succ]
  go_wp2
  go_ret
  refine ⟨_, rfl, RowAt.nil _, fun k hk => by simp [Value.ownBlock] at hk, ?_⟩
  exact (((((Below.refl _ w).alloc (Nat.le_refl _) _).alloc (by simp) _).alloc (by simp; omega) _).alloc (by simp; omega) _).alloc (by simp; omega) _
theorem ok_nil : Ok [] := ⟨by simp, fun i => by simp [row], fun i j hj => by simp [row] at hj, fun i hi => by simp [row] at hi⟩
theorem strong_nil (w : World) : Calls Try.prog 19 #[.pointer none] w (NewR w []) :=
  strong_gen none ok_nil (fun W _ => len_nil W) (fun W _ => back_nil W) (fun W _ => finished_nil W)
end Go.Proofs.Ytlcadkhhpnaofaa
