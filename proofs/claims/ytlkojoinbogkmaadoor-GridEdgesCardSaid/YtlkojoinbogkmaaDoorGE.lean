/-
  The walk of the law GridEdges.
-/
import Derived.Test.YtlkojoinbogkmaaDoorSt
namespace Go.Proofs.YtlkojoinbogkmaaDoor
set_option maxRecDepth 100000
set_option linter.unusedSimpArgs false
open Go.RowKit

set_option maxHeartbeats 400000 in
theorem edges_long (s : ByteArray) (a b : Int) (w : World) (h : 230 < s.size) :
    Calls Tryd.prog 3 #[.string s, .int .i64 a, .int .i64 b] w fun e w' => e = .returned (.bool true) ∧ Below w.heap.size w w' := by
  go_enter Tryd.func3, Tryd.ntmps3
  go_wp2_with fail
  go_ret
  exact ⟨rfl, Below.refl _ _⟩

set_option maxHeartbeats 1000000 in
theorem edges_bad (s : ByteArray) (a b : Int) (w : World) (h : s.size ≤ 230) {l c : Nat} (hv : Pure.verdict s.data.toList = .bad l c) :
    Calls Tryd.prog 3 #[.string s, .int .i64 a, .int .i64 b] w fun e w' => e = .returned (.bool true) ∧ Below w.heap.size w w' := by
  have HP : Hid (∀ w, Calls Tryd.prog 7 #[.string s] w fun e w' => e = .returned (.tuple #[.pointer none, .int .i64 (l : Int), .int .i64 (c : Int), .int .i64 10]) ∧ Below w.heap.size w w') := by
    intro w
    refine (parse_any s w (by omega)).mono ?_
    rintro e w' ⟨h1, h2⟩
    rw [hv] at h2
    exact ⟨h2, h1⟩
  have HR : Hid (∀ w, Calls Tryd.prog 8 #[.string s] w fun e w' => e = .returned (.tuple #[.pointer none, .int .i64 (l : Int), .int .i64 (c : Int), .int .i64 10]) ∧ Below w.heap.size w w') := by
    intro w
    refine (ref_all s w (by omega)).mono ?_
    rintro e w' ⟨h1, h2⟩
    rw [hv] at h2
    exact ⟨h2, h1⟩
  clear hv
  go_enter Tryd.func3, Tryd.ntmps3
  go_wp2_with (first
    | (go_at_call 7; (with_reducible refine (HP.out _).mono ?_); rintro e w1 ⟨rfl, hb1⟩)
    | (go_at_call 8; (with_reducible refine (HR.out _).mono ?_); rintro e w2 ⟨rfl, hb2⟩))
  go_ret
  exact ⟨rfl, hb1.trans (hb2.mono hb1.size)⟩

/-- Where the law stands behind both readings. -/
theorem st_start {w w1 w2 : World} {bm gm cm br gr cr : Nat} {Q : List ByteArray} (hw : Ways w) (hG : Pure.Good (lsts Q)) (hm : MapAt w1 bm gm cm (lsts Q)) (hb1 : Below w.heap.size w w1) (hbm : w.heap.size ≤ bm) (hr : RefAt w2 br gr cr Q) (hb2 : Below w1.heap.size w1 w2) (hbr : w1.heap.size ≤ br) :
    St w bm gm cm br gr cr Q w2 := by
  have hm2 := hm.below hb2 (Nat.le_refl _)
  have hlt := blk_lt hm.blk
  have hgr := (hr.own.lt gr rfl).1
  have hgm := (hm.own.lt gm rfl).1
  have hbel : Below w.heap.size w w2 := hb1.trans (hb2.mono hb1.size)
  have hwl : 0 < w.heap.size := World.block_lt_of_cell? w ⟨0, 0, none⟩ (hw 0 _ rfl)
  refine ⟨?_, hr, hbel, hbm, by omega, by omega, hG⟩
  exact
    { ways := fun j u hj => (hbel.cell (p := ⟨0, j, none⟩) hwl).trans (hw j u hj)
      wb := by omega
      gb := by omega
      hC := hG.lo
      hC2 := hG.hi
      hR := hG.len
      hN := hG.size.symm
      mark := fun u hu => byte_cells hm2.own u hu
      c0 := by rw [blk_cell hm2.blk]; rfl
      c1 := by rw [blk_cell hm2.blk]; rfl
      c2 := by rw [blk_cell hm2.blk]; rfl
      st := .inl hm2.blk }

/-- Between two rounds. -/
def GeRel (w0 : World) (bm gm cm br gr cr : Nat) (Q : List ByteArray) (N : Nat) (n i : Value) (wr : World) : Prop :=
  ∃ k : Nat, k ≤ N + 2 ∧ i = .int .i64 ((k : Int) - 1) ∧ n = .int .i64 (tot (lsts Q).length (Pure.wid (lsts Q)) (lsts Q).flatten k : Int) ∧ St w0 bm gm cm br gr cr Q wr

set_option maxHeartbeats 2000000 in
theorem edges_good (s : ByteArray) (a b : Int) (w : World) (hw : Ways w) (h : s.size ≤ 230) {L : List (List UInt8)} (hv : Pure.verdict s.data.toList = .good L) :
    Calls Tryd.prog 3 #[.string s, .int .i64 a, .int .i64 b] w fun e w' => e = .returned (.bool true) ∧ Below w.heap.size w w' := by
  have hgt := Pure.good_of hv
  have HP : Hid (∀ w, Calls Tryd.prog 7 #[.string s] w fun e w' => ∃ b g cap, e = .returned (.tuple #[.pointer (some ⟨b, 0, none⟩), .int .i64 0, .int .i64 0, .int .i64 0]) ∧ (MapAt w' b g cap L ∧ Below w.heap.size w w' ∧ w.heap.size ≤ b)) := by
    intro w
    refine (parse_any s w (by omega)).mono ?_
    rintro e w' ⟨h1, h2⟩
    rw [hv] at h2
    obtain ⟨g, cap, h3, h4⟩ := h2
    exact ⟨_, g, cap, h3, h4, h1, Nat.le_refl _⟩
  have HR : Hid (∀ w, Calls Tryd.prog 8 #[.string s] w fun e w' => ∃ b g cap Q, e = .returned (.tuple #[.pointer (some ⟨b, 0, none⟩), .int .i64 0, .int .i64 0, .int .i64 0]) ∧ (lsts Q = L ∧ RefAt w' b g cap Q ∧ Below w.heap.size w w' ∧ w.heap.size ≤ b)) := by
    intro w
    refine (ref_all s w (by omega)).mono ?_
    rintro e w' ⟨h1, h2⟩
    rw [hv] at h2
    obtain ⟨g, cap, Q, hq, h3, h4⟩ := h2
    exact ⟨_, g, cap, Q, h3, hq, h4, h1, Nat.le_refl _⟩
  have HW : Hid (Ways w) := hw
  clear hv hw
  have HG : Hid (Pure.Good L) := hgt.1
  clear hgt
  go_enter Tryd.func3, Tryd.ntmps3
  go_wp2_with (first
    | (go_at_call 7; (with_reducible refine (HP.out _).mono ?_); rintro e w1 ⟨bm, gm, cm, rfl, hm1⟩; have HM : Hid (MapAt w1 bm gm cm L ∧ Below w.heap.size w w1 ∧ w.heap.size ≤ bm) := hm1; clear hm1)
    | (go_at_call 8; (with_reducible refine (HR.out _).mono ?_); rintro e w2 ⟨br, gr, cr, Q, rfl, hr2⟩; have HF : Hid (lsts Q = L ∧ RefAt w2 br gr cr Q ∧ Below w1.heap.size w1 w2 ∧ w1.heap.size ≤ br) := hr2; clear hr2))
  have HS : Hid (St w bm gm cm br gr cr Q w2) := by
    obtain ⟨hq, f1, f2, f3⟩ := HF.out
    obtain ⟨m1, m2, m3⟩ := HM.out
    have hg := HG.out
    subst hq
    exact st_start HW.out hg m1 m2 m3 f1 f2 f3
  clear HP HR HM HF HG HW
  obtain ⟨N, hN⟩ : ∃ N, (lsts Q).flatten.length = N := ⟨_, rfl⟩
  have hNs : N ≤ 1024 := by rw [← hN]; exact HS.out.good.small
  have HN : Hid ((lsts Q).flatten.length = N) := hN
  clear hN
  go_loopw [15, 16] (fun n i wr => GeRel w bm gm cm br gr cr Q N n i wr) (fun _ i _ => (N + 2) - (intOf i + 1).toNat)
  case atStart => exact ⟨0, by omega, rfl, rfl, HS.out⟩
  case round =>
    obtain ⟨k, hk, rfl, rfl, hst⟩ := hrel
    have HSr : Hid (St w bm gm cm br gr cr Q wr) := hst
    clear hst HS
    have HCells : Hid (∀ W, St w bm gm cm br gr cr Q W → Calls Tryd.prog 9 #[.pointer (some ⟨br, 0, none⟩)] W fun e w' => e = .returned (.int .i64 (N : Int)) ∧ St w bm gm cm br gr cr Q w') := fun W hW => HN.out ▸ st_cells hW
    by_cases hlt : k < N + 2
    · obtain ⟨I, hI⟩ : ∃ I : Int, I = (k : Int) - 1 := ⟨_, rfl⟩
      have hstep := tot_step (lsts Q).length (Pure.wid (lsts Q)) (lsts Q).flatten k
      rw [← hI] at hstep ⊢
      have hle : I ≤ (N : Int) := by omega
      have hlo : -1 ≤ I := by omega
      have hln := next_len (lsts Q).length (Pure.wid (lsts Q)) (lsts Q).flatten I
      have hlb : (backZ (lsts Q).length (Pure.wid (lsts Q)) (lsts Q).flatten I).length ≤ 100000 := Nat.le_trans (back_len (lsts Q).length (Pure.wid (lsts Q)) (lsts Q).flatten I) (by rw [HN.out]; omega)
      have htl := tot_le (lsts Q).length (Pure.wid (lsts Q)) (lsts Q).flatten k
      rw [HN.out] at htl
      have HNx : Hid (∀ W, St w bm gm cm br gr cr Q W → Calls Tryd.prog 10 #[.pointer (some ⟨bm, 0, none⟩), .int .i64 I] W fun e w' => ∃ v w1, e = .returned v ∧ (XS w bm gm cm br gr cr Q w1 v (nextZ (lsts Q).length (Pure.wid (lsts Q)) (lsts Q).flatten I).length w' ∧ Lst w' v (nextZ (lsts Q).length (Pure.wid (lsts Q)) (lsts Q).flatten I))) := fun W hW => (st_next I hW).mono fun e w' ⟨v, w1, h1, h2, h3⟩ => ⟨v, w1, h1, h2, h3⟩
      have HRn : Hid (∀ W w1 v n u l, XS w bm gm cm br gr cr Q w1 v n W → Lst W u l → Calls Tryd.prog 12 #[.pointer (some ⟨br, 0, none⟩), .int .i64 I] W fun e w' => ∃ v2, e = .returned v2 ∧ (XS w bm gm cm br gr cr Q w1 v n w' ∧ Lst w' v2 (nextZ (lsts Q).length (Pure.wid (lsts Q)) (lsts Q).flatten I) ∧ Lst w' u l)) := fun W w1 v n u l hW hl => xs_rnext I hW hl
      have HBk : Hid (∀ W w1 v n, XS w bm gm cm br gr cr Q w1 v n W → Calls Tryd.prog 13 #[.pointer (some ⟨bm, 0, none⟩), .int .i64 I] W fun e w' => ∃ v2, e = .returned v2 ∧ (XS w bm gm cm br gr cr Q w1 v n w' ∧ Lst w' v2 (backZ (lsts Q).length (Pure.wid (lsts Q)) (lsts Q).flatten I))) := fun W w1 v n hW => xs_back I hW
      have HRb : Hid (∀ W w1 v n u l, XS w bm gm cm br gr cr Q w1 v n W → Lst W u l → Calls Tryd.prog 14 #[.pointer (some ⟨br, 0, none⟩), .int .i64 I] W fun e w' => ∃ v2, e = .returned v2 ∧ (XS w bm gm cm br gr cr Q w1 v n w' ∧ Lst w' v2 (backZ (lsts Q).length (Pure.wid (lsts Q)) (lsts Q).flatten I) ∧ Lst w' u l)) := fun W w1 v n u l hW hl => xs_rback I hW hl
      have HSm1 : Hid (∀ W w1 v n u u2, XS w bm gm cm br gr cr Q w1 v n W → Lst W u (nextZ (lsts Q).length (Pure.wid (lsts Q)) (lsts Q).flatten I) → Lst W u2 (nextZ (lsts Q).length (Pure.wid (lsts Q)) (lsts Q).flatten I) → Calls Tryd.prog 11 #[u, u2] W fun e w' => e = .returned (.bool true) ∧ XS w bm gm cm br gr cr Q w1 v n w') := fun W w1 v n u u2 hW h1 h2 => xs_same hW h1 h2 (by omega)
      have HSm2 : Hid (∀ W w1 v n u u2, XS w bm gm cm br gr cr Q w1 v n W → Lst W u (backZ (lsts Q).length (Pure.wid (lsts Q)) (lsts Q).flatten I) → Lst W u2 (backZ (lsts Q).length (Pure.wid (lsts Q)) (lsts Q).flatten I) → Calls Tryd.prog 11 #[u, u2] W fun e w' => e = .returned (.bool true) ∧ XS w bm gm cm br gr cr Q w1 v n w') := fun W w1 v n u u2 hW h1 h2 => xs_same hW h1 h2 hlb
      have HREL : Hid (∀ W, St w bm gm cm br gr cr Q W → GeRel w bm gm cm br gr cr Q N (.int .i64 (tot (lsts Q).length (Pure.wid (lsts Q)) (lsts Q).flatten (k + 1) : Int)) (.int .i64 (I + 1)) W) := fun W hW => ⟨k + 1, by omega, by rw [hI]; congr 1; omega, rfl, hW⟩
      have Hmu : Hid ((I + 1).toNat = k) := by show _ = _; omega
      clear hI
      generalize tot (lsts Q).length (Pure.wid (lsts Q)) (lsts Q).flatten (k + 1) = t1 at *
      generalize tot (lsts Q).length (Pure.wid (lsts Q)) (lsts Q).flatten k = t0 at *
      generalize nextZ (lsts Q).length (Pure.wid (lsts Q)) (lsts Q).flatten I = l at *
      generalize backZ (lsts Q).length (Pure.wid (lsts Q)) (lsts Q).flatten I = lb at *
      clear hlb
      generalize l.length = ln at *
      have hwr : IntKind.i64.wrap ((t0 : Int) + (ln : Int)) = (t1 : Int) := by
        rw [IntWalk.i64_in _ (by omega)]; omega
      have hwi : IntKind.i64.wrap (I + 1) = I + 1 := IntWalk.i64_in _ (by omega)
      go_wp2_with (first
        | (go_at_call 9; (with_reducible refine (HCells.out _ HSr.out).mono ?_); rintro e w3 ⟨rfl, hs⟩; have HS3 : Hid (St w bm gm cm br gr cr Q w3) := hs; clear hs)
        | (go_at_call 10; (with_reducible refine (HNx.out _ HS3.out).mono ?_); rintro e w5 ⟨v, w4, rfl, hx, hl⟩; obtain ⟨a1, c1, rfl⟩ := hx.slice; have HX5 : Hid (XS w bm gm cm br gr cr Q w4 (.slice a1 ln c1) ln w5 ∧ Lst w5 (.slice a1 ln c1) l) := ⟨hx, hl⟩; clear hx hl)
        | (go_at_call 12; (with_reducible refine (HRn.out _ _ _ _ _ _ HX5.out.1 HX5.out.2).mono ?_); rintro e w6 ⟨v2, rfl, hx⟩; have HX6 : Hid (XS w bm gm cm br gr cr Q w4 (.slice a1 ln c1) ln w6 ∧ Lst w6 v2 l ∧ Lst w6 (.slice a1 ln c1) l) := hx; clear hx)
        | (go_at_call 11; (with_reducible refine (HSm1.out _ _ _ _ _ _ HX6.out.1 HX6.out.2.2 HX6.out.2.1).mono ?_); rintro e w7 ⟨rfl, hx⟩; have HX7 : Hid (XS w bm gm cm br gr cr Q w4 (.slice a1 ln c1) ln w7) := hx; clear hx)
        | (go_at_call 13; (with_reducible refine (HBk.out _ _ _ _ HX7.out).mono ?_); rintro e w8 ⟨v3, rfl, hx⟩; have HX8 : Hid (XS w bm gm cm br gr cr Q w4 (.slice a1 ln c1) ln w8 ∧ Lst w8 v3 lb) := hx; clear hx)
        | (go_at_call 14; (with_reducible refine (HRb.out _ _ _ _ _ _ HX8.out.1 HX8.out.2).mono ?_); rintro e w9 ⟨v4, rfl, hx⟩; have HX9 : Hid (XS w bm gm cm br gr cr Q w4 (.slice a1 ln c1) ln w9 ∧ Lst w9 v4 lb ∧ Lst w9 v3 lb) := hx; clear hx)
        | (go_at_call 11; (with_reducible refine (HSm2.out _ _ _ _ _ _ HX9.out.1 HX9.out.2.2 HX9.out.2.1).mono ?_); rintro e w10 ⟨rfl, hx⟩; have HX10 : Hid (XS w bm gm cm br gr cr Q w4 (.slice a1 ln c1) ln w10) := hx; clear hx))
      clear HNx HRn HBk HRb HSm1 HSm2 HCells HS3 HX5 HX6 HX7 HX8 HX9
      go_loopw [18] (fun j wr => ∃ q : Nat, q ≤ ln ∧ j = .int .i64 q ∧ XS w bm gm cm br gr cr Q w4 (.slice a1 ln c1) ln wr) (fun j _ => ln - (intOf j).toNat)
      case atStart => exact ⟨0, Nat.zero_le _, rfl, HX10.out⟩
      case round =>
        obtain ⟨q, hq, rfl, hx⟩ := hrel
        have HX : Hid (XS w bm gm cm br gr cr Q w4 (.slice a1 ln c1) ln wr) := hx
        clear hx
        by_cases hql : q < ln
        · obtain ⟨g, c, hv, hc⟩ := HX.out.cell (by omega)
          obtain ⟨rfl, rfl⟩ : a1 = some ⟨g, 0, none⟩ ∧ c1 = c := by simpa using hv
          obtain ⟨⟨u, hcq⟩, hfq⟩ := hc q hql
          have HY : Hid (XS w bm gm cm br gr cr Q w4 (.slice (some ⟨g, 0, none⟩) ln c1) ln (wr.setCell ⟨g, q, none⟩ (.int .i64 (-1)))) := HX.out.set rfl hql _
          have hqi : (q : Int) < (ln : Int) := by omega
          have hq0 : (0 : Int) ≤ (q : Int) := by omega
          clear hc hv
          go_wp2
          go_roundw
          case rel => exact ⟨q + 1, by omega, by go_num, HY.out⟩
          case measure => simp [intOf]; omega
        · obtain rfl : q = ln := by omega
          go_wp2
          go_roundw
          case rel =>
            have h5 := HREL.out _ HX.out.st
            rw [hstep] at h5
            simpa using h5
          case measure => have := Hmu.out; simp [intOf]; omega
    · obtain rfl : k = N + 2 := by omega
      have hend : tot (lsts Q).length (Pure.wid (lsts Q)) (lsts Q).flatten (N + 2) = eds (lsts Q).length (Pure.wid (lsts Q)) (lsts Q).flatten N := by
        have := tot_end (lsts Q).length (Pure.wid (lsts Q)) (lsts Q).flatten
        rw [HN.out] at this
        exact this
      rw [hend]
      have hNi : ((N + 2 : Nat) : Int) - 1 = (N : Int) + 1 := by omega
      rw [hNi]
      have HE : Hid (∀ W, St w bm gm cm br gr cr Q W → Calls Tryd.prog 15 #[.pointer (some ⟨bm, 0, none⟩), .int .i64 a, .int .i64 b] W fun e w' => e = .returned (.bool (edgeB (Pure.wid (lsts Q)) (lsts Q).flatten a b)) ∧ St w bm gm cm br gr cr Q w') := fun W hW => st_edge a b hW
      have HRE : Hid (∀ W, St w bm gm cm br gr cr Q W → Calls Tryd.prog 16 #[.pointer (some ⟨br, 0, none⟩), .int .i64 a, .int .i64 b] W fun e w' => e = .returned (.bool (edgeB (Pure.wid (lsts Q)) (lsts Q).flatten a b)) ∧ St w bm gm cm br gr cr Q w') := fun W hW => st_redge a b hW
      have HFa : Hid (∀ W, St w bm gm cm br gr cr Q W → Calls Tryd.prog 17 #[.pointer (some ⟨bm, 0, none⟩), .int .i64 a, .int .i64 b] W fun e w' => e = .returned (.int .i64 (farZ (Pure.wid (lsts Q)) (lsts Q).flatten.length a b)) ∧ St w bm gm cm br gr cr Q w') := fun W hW => st_far a b hW
      have HRF : Hid (∀ W, St w bm gm cm br gr cr Q W → Calls Tryd.prog 18 #[.pointer (some ⟨br, 0, none⟩), .int .i64 a, .int .i64 b] W fun e w' => e = .returned (.int .i64 (farZ (Pure.wid (lsts Q)) (lsts Q).flatten.length a b)) ∧ St w bm gm cm br gr cr Q w') := fun W hW => st_rfar a b hW
      have HEd : Hid (∀ W, St w bm gm cm br gr cr Q W → Calls Tryd.prog 19 #[.pointer (some ⟨bm, 0, none⟩)] W fun e w' => e = .returned (.int .i64 (eds (lsts Q).length (Pure.wid (lsts Q)) (lsts Q).flatten N : Int)) ∧ St w bm gm cm br gr cr Q w') := fun W hW => HN.out ▸ st_edges hW
      have HNx : Hid (∀ W, St w bm gm cm br gr cr Q W → Calls Tryd.prog 10 #[.pointer (some ⟨bm, 0, none⟩), .int .i64 a] W fun e w' => ∃ v w1 n, e = .returned v ∧ (XS w bm gm cm br gr cr Q w1 v n w' ∧ Lst w' v (nextZ (lsts Q).length (Pure.wid (lsts Q)) (lsts Q).flatten a))) := fun W hW => (st_next a hW).mono fun e w' ⟨v, w1, h1, h2, h3⟩ => ⟨v, w1, _, h1, h2, h3⟩
      have HRn : Hid (∀ W w1 v n u l, XS w bm gm cm br gr cr Q w1 v n W → Lst W u l → Calls Tryd.prog 12 #[.pointer (some ⟨br, 0, none⟩), .int .i64 a] W fun e w' => ∃ v2, e = .returned v2 ∧ (XS w bm gm cm br gr cr Q w1 v n w' ∧ Lst w' v2 (nextZ (lsts Q).length (Pure.wid (lsts Q)) (lsts Q).flatten a) ∧ Lst w' u l)) := fun W w1 v n u l hW hl => xs_rnext a hW hl
      have hln := next_len (lsts Q).length (Pure.wid (lsts Q)) (lsts Q).flatten a
      have HSm1 : Hid (∀ W w1 v n u u2, XS w bm gm cm br gr cr Q w1 v n W → Lst W u (nextZ (lsts Q).length (Pure.wid (lsts Q)) (lsts Q).flatten a) → Lst W u2 (nextZ (lsts Q).length (Pure.wid (lsts Q)) (lsts Q).flatten a) → Calls Tryd.prog 11 #[u, u2] W fun e w' => e = .returned (.bool true) ∧ XS w bm gm cm br gr cr Q w1 v n w') := fun W w1 v n u u2 hW h1 h2 => xs_same hW h1 h2 (by omega)
      clear hln hend hNi
      generalize edgeB (Pure.wid (lsts Q)) (lsts Q).flatten a b = r at *
      generalize farZ (Pure.wid (lsts Q)) (lsts Q).flatten.length a b = d at *
      generalize eds (lsts Q).length (Pure.wid (lsts Q)) (lsts Q).flatten N = t0 at *
      generalize nextZ (lsts Q).length (Pure.wid (lsts Q)) (lsts Q).flatten a = l at *
      go_wp2_with (first
        | (go_at_call 9; (with_reducible refine (HCells.out _ HSr.out).mono ?_); rintro e w3 ⟨rfl, hs⟩; have HS3 : Hid (St w bm gm cm br gr cr Q w3) := hs; clear hs)
        | (go_at_call 15; (with_reducible refine (HE.out _ HS3.out).mono ?_); rintro e w4 ⟨rfl, hs⟩; have HS4 : Hid (St w bm gm cm br gr cr Q w4) := hs; clear hs)
        | (go_at_call 16; (with_reducible refine (HRE.out _ HS4.out).mono ?_); rintro e w5 ⟨rfl, hs⟩; have HS5 : Hid (St w bm gm cm br gr cr Q w5) := hs; clear hs)
        | (go_at_call 17; (with_reducible refine (HFa.out _ HS5.out).mono ?_); rintro e w6 ⟨rfl, hs⟩; have HS6 : Hid (St w bm gm cm br gr cr Q w6) := hs; clear hs)
        | (go_at_call 18; (with_reducible refine (HRF.out _ HS6.out).mono ?_); rintro e w7 ⟨rfl, hs⟩; have HS7 : Hid (St w bm gm cm br gr cr Q w7) := hs; clear hs)
        | (go_at_call 19; (with_reducible refine (HEd.out _ HS7.out).mono ?_); rintro e w8 ⟨rfl, hs⟩; have HS8 : Hid (St w bm gm cm br gr cr Q w8) := hs; clear hs)
        | (go_at_call 10; (with_reducible refine (HNx.out _ HS8.out).mono ?_); rintro e w9 ⟨v, w10, n, rfl, hx⟩; have HX9 : Hid (XS w bm gm cm br gr cr Q w10 v n w9 ∧ Lst w9 v l) := hx; clear hx)
        | (go_at_call 12; (with_reducible refine (HRn.out _ _ _ _ _ _ HX9.out.1 HX9.out.2).mono ?_); rintro e w11 ⟨v2, rfl, hx⟩; have HX11 : Hid (XS w bm gm cm br gr cr Q w10 v n w11 ∧ Lst w11 v2 l ∧ Lst w11 v l) := hx; clear hx)
        | (go_at_call 11; (with_reducible refine (HSm1.out _ _ _ _ _ _ HX11.out.1 HX11.out.2.2 HX11.out.2.1).mono ?_); rintro e w12 ⟨rfl, hx⟩; have HX12 : Hid (XS w bm gm cm br gr cr Q w10 v n w12) := hx; clear hx))
      go_ret
      exact ⟨rfl, HX12.out.st.bl⟩

theorem edges_all (s : ByteArray) (a b : Int) (w : World) (hw : Ways w) :
    Calls Tryd.prog 3 #[.string s, .int .i64 a, .int .i64 b] w fun e w' => e = .returned (.bool true) ∧ Below w.heap.size w w' := by
  by_cases h : 230 < s.size
  · exact edges_long s a b w h
  · cases hv : Pure.verdict s.data.toList with
    | bad l c => exact edges_bad s a b w (by omega) hv
    | good L => exact edges_good s a b w hw (by omega) hv
end Go.Proofs.YtlkojoinbogkmaaDoor
