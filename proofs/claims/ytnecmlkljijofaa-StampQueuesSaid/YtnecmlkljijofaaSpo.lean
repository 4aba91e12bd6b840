/-
  The law StampOrders.
-/
import Derived.Test.YtnecmlkljijofaaSpt
import Derived.Test.YtnecmlkljijofaaSpm
import Derived.Deep.RegionHeld3
namespace Go.Proofs.Ytnecmlkljijofaa
set_option maxRecDepth 100000
set_option linter.unusedSimpArgs false
open Go Go.RowKit Sp

theorem cut_at2 {w : World} {o : Nat} {l : List Wt} (h : QAt w o l) (r : Int) :
    Calls Try.prog 18 #[.pointer (some ⟨o, 0, none⟩), .int .i64 r] w fun e w' => e = .returned (.bool (has l r)) ∧ QAt w' o (cutL l r) ∧ Kept (fun k => k = o) w w' := by
  refine (cut_any (.inr ⟨o, rfl, h⟩) r).mono ?_
  rintro e w' ⟨rfl, h3, h4⟩
  rcases h3 with ⟨h3, _⟩ | ⟨o', h3, h5⟩
  · cases h3
  · cases h3
    exact ⟨rfl, h5, h4.mono (fun k _ hk => by obtain ⟨o2, e1, e2⟩ := hk; cases e1; exact e2)⟩
theorem QAt.still {w w' : World} {b : Nat} {l : List Wt} (h : QAt w b l) (hb : Below w.heap.size w w') : QAt w' b l := h.kept (still_of hb) id

/-- What there is as waiters are counted. -/
structure MetI (w : World) (p : Nat) (l : List Wt) (j : Nat) (W : World) : Prop where
  q1 : QAt W p []
  q2 : QAt W (p + 1) []
  mny : ∃ g, Mny W (p + 1 + 1) j g ∧ (∀ r, g r = cnt (l.take j) r)
  one : ∀ i, i < j → cnt (l.take i) (l.getD i w0).r = 0
  bel : Below w.heap.size w W
/-- A waiter is counted: it was met ahead, or it was not. -/
theorem MetI.step {w : World} {p : Nat} {l : List Wt} {j : Nat} {W : World} (h : MetI w p l j W) (hp : w.heap.size ≤ p) (hj : j < l.length) (hl : l.length ≤ 8) (hr1 : -9223372036854775808 ≤ (l.getD j w0).r) (hr2 : (l.getD j w0).r ≤ 9223372036854775807) :
    ∃ (c : Int) (W' : World), 0 ≤ c ∧ c ≤ 8 ∧ (Instr.lookup 72 (.map (some (p + 1 + 1))) (.int .i64 (l.getD j w0).r) false).run Try.prog W = .ok (.int .i64 c) W ∧
      (Instr.mapUpdate 72 (.map (some (p + 1 + 1))) (.int .i64 (l.getD j w0).r) (.int .i64 (c + 1))).run Try.prog W = .ok () W' ∧
      (Instr.lookup 72 (.map (some (p + 1 + 1))) (.int .i64 (l.getD j w0).r) false).run Try.prog W' = .ok (.int .i64 (c + 1)) W' ∧
      Kept (fun k => k = p + 1 + 1) W W' ∧ Below w.heap.size w W' ∧ (c = 0 → MetI w p l (j + 1) W') := by
  obtain ⟨g, hm, hg⟩ := h.mny
  have hc := cnt_le (l.take j) (l.getD j w0).r
  have hlt : (l.take j).length ≤ 8 := by rw [List.length_take]; omega
  have h1 := hm.look hr1 hr2
  rw [hg] at h1
  obtain ⟨W', hr, hm', hk⟩ := hm.put (by omega) (v := cnt (l.take j) (l.getD j w0).r + 1) hr1 hr2 (i64_wf (by omega) (by omega))
  have h2 := hm'.look hr1 hr2
  simp only [if_true] at h2
  have hb : Below w.heap.size w W' := h.bel.trans (hk.below (fun k hk => by omega) h.bel.size)
  refine ⟨_, W', hc.1, by omega, h1, hr, h2, hk, hb, fun h0 => ⟨h.q1.kept hk (by omega), h.q2.kept hk (by omega), ⟨_, hm', fun r => ?_⟩, fun i hi => ?_, hb⟩⟩
  · rw [cnt_take hj, hg]
    by_cases e : r = (l.getD j w0).r
    · rw [if_pos e, if_pos e, e]
    · rw [if_neg e, if_neg e]
  · by_cases e : i = j
    · rw [e]; exact h0
    · exact h.one i (by omega)

set_option maxHeartbeats 8000000 in
theorem orders_any {w : World} {A : Option Addr} {l : List Wt} {cap : Nat} (hA : WtsAt w A l) (hr : ∀ k, k < l.length → -9223372036854775808 ≤ (l.getD k w0).r ∧ (l.getD k w0).r ≤ 9223372036854775807) (r : Int) :
    Calls Try.prog 7 #[.slice A l.length cap, .int .i64 r] w fun x w' => x = .returned (.bool true) ∧ Below w.heap.size w w' := by
  obtain ⟨N, hN⟩ : ∃ N, N = l.length := ⟨_, rfl⟩
  rw [← hN]
  have HAl := Lib.hid (alive_any w)
  by_cases hl : 8 < N
  · have e1 : decide ((8 : Int) < (N : Int)) = true := by simp; omega
    have e2 : decide (8 < N) = true := by simpa using hl
    clear hA hr
    go_enter Try.func7, Try.ntmps7
    go_wp2_with fail
    refine HAl.out.mono ?_
    rintro e' W0 ⟨rfl, b0⟩
    have HB := Lib.hid b0
    clear b0
    go_wp2
    go_ret
    exact ⟨rfl, HB.out⟩
  · have e1 : decide ((8 : Int) < (N : Int)) = false := by simp; omega
    have e2 : decide (8 < N) = false := by simpa using hl
    have HA := Lib.hid hA
    have HR := Lib.hid hr
    have HN := Lib.hid hN
    clear hA hN hr
    have hmm := @run_makeMap Try.prog
    go_enter Try.func7, Try.ntmps7
    go_wp2_with fail
    refine HAl.out.mono ?_
    rintro e' W0 ⟨rfl, b0⟩
    have HB0 := Lib.hid b0
    have hw0 : w.heap.size ≤ W0.heap.size := b0.size
    obtain ⟨ZC, hZC⟩ : ∃ ZC : Array Value, ZC = (csA (pad []) ++ [Value.int .i64 ((0 : Nat) : Int)]).toArray := ⟨_, rfl⟩
    have HI1 : Hid (MetI w W0.heap.size l 0 (((W0.alloc (.cells ZC 43)).alloc (.cells ZC 43)).alloc (.map #[] 0))) := by
      have hq1 := zq (w := W0) hZC
      have hq2 := zq (w := W0.alloc (.cells ZC 43)) hZC
      have hm := Mny.made ((W0.alloc (.cells ZC 43)).alloc (.cells ZC 43))
      simp only [World.size_alloc] at hq2 hm
      refine ⟨(hq1.kept (X := fun _ => False) ((Kept.refl _ _).alloc _) id).kept (X := fun _ => False) ((Kept.refl _ _).alloc _) id, hq2.kept (X := fun _ => False) ((Kept.refl _ _).alloc _) id, ⟨_, hm, fun _ => rfl⟩, fun i hi => by omega, ?_⟩
      exact ((b0.alloc (by omega) _).alloc (by simp; omega) _).alloc (by simp; omega) _
    have HZC : Hid (ZC = #[.int .i64 0, .int .u64 0, .int .i64 0, .int .i64 0, .int .u64 0, .int .i64 0, .int .i64 0, .int .u64 0, .int .i64 0, .int .i64 0, .int .u64 0, .int .i64 0, .int .i64 0, .int .u64 0, .int .i64 0, .int .i64 0, .int .u64 0, .int .i64 0, .int .i64 0, .int .u64 0, .int .i64 0, .int .i64 0, .int .u64 0, .int .i64 0, .int .i64 0]) := by show _ = _; rw [hZC]; rfl
    clear hZC b0 HAl
    go_wp2_with fail
    rw [← HZC.out]
    obtain ⟨W1, hW1⟩ : ∃ W1, ((W0.alloc (.cells ZC 43)).alloc (.cells ZC 43)).alloc (.map #[] 0) = W1 := ⟨_, rfl⟩
    rw [hW1] at HI1 ⊢
    clear hW1 HZC
    have hN8 : N ≤ 8 := by omega
    go_loopw [34] (fun u wr => ∃ j : Nat, j ≤ N ∧ u = .int .i64 (j : Int) ∧ MetI w W0.heap.size l j wr) (fun u _ => N - (intOf u).toNat)
    case atStart => exact ⟨0, Nat.zero_le _, rfl, HI1.out⟩
    case round =>
      obtain ⟨j, hj, rfl, hI⟩ := hrel
      rename World => V
      by_cases hlt : j < N
      · have hjl : j < l.length := by rw [← HN.out]; exact hlt
        obtain ⟨a, rfl, c00, _, _⟩ := (HA.out.kept (Kept.of_below (X := fun k => w.heap.size ≤ k) hI.bel (Nat.le_refl _)) (fun k hk => by omega)) j hjl
        have ha : (a.add (j * 3)).block < w.heap.size := by
          obtain ⟨a', e, h, _⟩ := HA.out j hjl
          cases e
          exact World.block_lt_of_cell? w _ h
        obtain ⟨c, W2, hc0, hc8, l1, u1, l2, hk2, hb2, hst⟩ := hI.step hw0 hjl (by rw [← HN.out]; exact hN8) (HR.out j hjl).1 (HR.out j hjl).2
        have c20 := hk2.cell c00 (by omega)
        have HJ := Lib.hid hlt
        have HST := Lib.hid hst
        have HB2 := Lib.hid hb2
        have j0 : (0 : Int) ≤ (j : Int) := by omega
        have j1 : (j : Int) < (N : Int) := by omega
        have hwc : IntKind.i64.wrap (c + 1) = c + 1 := IntWalk.i64_in _ (by omega)
        clear hI hj hjl hst hb2 hk2 HI1 ha
        generalize (l.getD j w0).r = y at *
        by_cases hc : c = 0
        · subst hc
          simp only [show (0 : Int) + 1 = 1 from rfl] at u1 l2 hwc
          have HS2 := Lib.hid (HST.out rfl)
          clear HST
          go_wp2
          go_roundw
          case rel => exact ⟨j + 1, HJ.out, by go_num, HS2.out⟩
          case measure => have := HJ.out; simp [intOf]; omega
        · have g1 : decide ((1 : Int) < c + 1) = true := by simp; omega
          have g2 : (1 : Int) < c + 1 := by omega
          have g3 : (0 : Int) < c := by omega
          clear HST
          go_wp2
          go_ret
          exact ⟨rfl, HB2.out⟩
      · obtain rfl : j = N := by omega
        have hL : l.take j = l := by rw [HN.out, List.take_length]
        have hD : Dis l := dis_of_cnt (fun i hi => hI.one i (by rw [HN.out]; exact hi))
        have HREV := Lib.hid (puts_rev hD (by rw [← HN.out]; exact hN8))
        have HQ1 := Lib.hid hI.q1
        have HQ2 := Lib.hid hI.q2
        have HB1 := Lib.hid hI.bel
        clear hI hj HI1 HR hmm HB0 hD
        go_wp2_with fail
        go_loopw [57] (fun u wr => ∃ k : Nat, k ≤ j ∧ u = .int .i64 (k : Int) ∧ QAt wr W0.heap.size (puts (l.take k)) ∧ QAt wr (W0.heap.size + 1) (puts (l.reverse.take k)) ∧ Below w.heap.size w wr) (fun u _ => j - (intOf u).toNat)
        case atStart => exact ⟨0, Nat.zero_le _, rfl, HQ1.out, HQ2.out, HB1.out⟩
        case round =>
          obtain ⟨k, hk, rfl, hq1, hq2, hb⟩ := hrel
          by_cases hlt2 : k < j
          · have hkl : k < l.length := by rw [← HN.out]; exact hlt2
            have HAb : Hid (∀ W, Below w.heap.size w W → ∀ i, i < l.length → ∃ a, A = some a ∧ W.cell? (a.add (i * 3)) = some (.int .i64 (l.getD i w0).r) ∧ W.cell? ⟨(a.add (i * 3)).block, (a.add (i * 3)).off + 1, none⟩ = some (.int .u64 (l.getD i w0).s) ∧ W.cell? ⟨(a.add (i * 3)).block, (a.add (i * 3)).off + 2, none⟩ = some (.int .i64 (l.getD i w0).p)) := fun W hW i hi =>
              (HA.out.kept (Kept.of_below (X := fun k => w.heap.size ≤ k) hW (Nat.le_refl _)) (fun k hk => by omega)) i hi
            obtain ⟨a, rfl, c0, c1, c2⟩ := HAb.out wr hb k hkl
            obtain ⟨m, hm⟩ : ∃ m, m = j - 1 - k := ⟨_, rfl⟩
            obtain ⟨M1, hM1⟩ : ∃ M1, M1 = j - 1 := ⟨_, rfl⟩
            have hml : m < l.length := by rw [← HN.out]; omega
            have HP := Lib.hid (put_s hq1 (l.getD k w0))
            rw [← puts_take hkl] at HP
            have hrv : l.reverse.take (k + 1) = l.reverse.take k ++ [l.getD m w0] := by
              rw [rev_take hkl, hm, HN.out]
            have hpr : puts (l.reverse.take (k + 1)) = putS (puts (l.reverse.take k)) (l.getD m w0) := by
              rw [hrv, puts, List.foldl_append]; rfl
            have HPR := Lib.hid hpr
            have HJ := Lib.hid hlt2
            have HML := Lib.hid hml
            have k0 : (0 : Int) ≤ (k : Int) := by omega
            have k1 : (k : Int) < (j : Int) := by omega
            have m0 : (0 : Int) ≤ (m : Int) := by omega
            have m1 : (m : Int) < (j : Int) := by omega
            have w1 : IntKind.i64.wrap ((j : Int) - 1) = (M1 : Int) := by rw [IntWalk.i64_in _ (by omega)]; omega
            have w2 : IntKind.i64.wrap ((M1 : Int) - (k : Int)) = (m : Int) := by rw [IntWalk.i64_in _ (by omega)]; omega
            have HB := Lib.hid hb
            have HQ2b := Lib.hid hq2
            clear hq1 hq2 hrv hpr hk hb hkl hml hm hM1
            obtain ⟨y, hy⟩ : ∃ y, y = l.getD k w0 := ⟨_, rfl⟩
            rw [← hy] at c0 c1 c2 HP
            clear hy
            obtain ⟨x0, x1, x2⟩ := y
            simp only at c0 c1 c2 HP
            go_wp2_with fail
            refine HP.out.mono ?_
            rintro e' W3 ⟨⟨v, rfl⟩, q3, k3⟩
            have HB3 := Lib.hid (HB.out.trans (k3.below (fun i hi => by omega) HB.out.size))
            have q32 := HQ2b.out.kept k3 (by omega)
            have HQ31 := Lib.hid q3
            have HP2 := Lib.hid (put_s q32 (l.getD m w0))
            rw [← HPR.out] at HP2
            obtain ⟨a', ea, d0, d1, d2⟩ := HAb.out W3 HB3.out m HML.out
            cases ea
            clear q3 k3 q32 HP HB HQ2b HPR c0 c1 c2
            obtain ⟨y, hy⟩ : ∃ y, y = l.getD m w0 := ⟨_, rfl⟩
            rw [← hy] at d0 d1 d2 HP2
            clear hy
            obtain ⟨z0, z1, z2⟩ := y
            simp only at d0 d1 d2 HP2
            go_wp2_with fail
            refine HP2.out.mono ?_
            rintro e' W4 ⟨⟨v', rfl⟩, q4, k4⟩
            have HQ41 := Lib.hid (HQ31.out.kept k4 (by omega))
            have HQ42 := Lib.hid q4
            have HB4 := Lib.hid (HB3.out.trans (k4.below (fun i hi => by omega) HB3.out.size))
            clear q4 k4 HP2 HB3 HQ31 d0 d1 d2
            go_wp2
            go_roundw
            case rel => exact ⟨k + 1, HJ.out, by go_num, HQ41.out, HQ42.out, HB4.out⟩
            case measure => have := HJ.out; simp [intOf]; omega
          · obtain rfl : k = j := by omega
            have hL2 : l.reverse.take k = l.reverse := by rw [List.take_of_length_le]; rw [List.length_reverse, ← HN.out]; exact Nat.le_refl _
            rw [hL] at hq1
            rw [hL2, HREV.out] at hq2
            have HOK := Lib.hid (puts_ok l)
            have hL8 := (puts_ok l).len
            clear hL hL2 HREV HQ1 HQ2 HB1 HA hk
            generalize puts l = L at *
            have HB := Lib.hid hb
            have HA1 := Lib.hid (all_w (p := some ⟨W0.heap.size, 0, none⟩) (.inr ⟨_, rfl, hq1⟩))
            clear hb
            go_wp2_with fail
            refine HA1.out.mono ?_
            rintro e' V1 ⟨va, rfl, ia, oa, b1⟩
            have q11 := hq1.still b1
            have q12 := hq2.still b1
            have HB1 := Lib.hid (HB.out.trans (b1.mono HB.out.size))
            have OA : Hid (∀ k, va.ownBlock = some k → ¬ k = W0.heap.size) := fun k hk => by have := oa k hk; have := hq1.lt; omega
            have HA2 := Lib.hid (all_w (p := some ⟨W0.heap.size + 1, 0, none⟩) (.inr ⟨_, rfl, q12⟩))
            clear hq1 hq2 b1 HA1 oa HB q12
            go_wp2_with fail
            refine HA2.out.mono ?_
            rintro e' V2 ⟨vb, rfl, ib, _, b2⟩
            have q2 := q11.still b2
            have ia2 := ia.still (still_of b2)
            have HB2 := Lib.hid (HB1.out.trans (b2.mono HB1.out.size))
            clear q11 b2 HA2 HB1 ia
            have HQ2 := Lib.hid q2
            have HIA := Lib.hid ia2
            have HIB := Lib.hid ib
            obtain ⟨A1, c1, rfl, hA1⟩ := ia2
            obtain ⟨A2, c2, rfl, _⟩ := ib
            have HLA : Hid (∀ wr, Below V2.heap.size V2 wr → ∀ i, i < L.length → ∃ g, A1 = some ⟨g, 0, none⟩ ∧ wr.cell? ⟨g, i * 3, none⟩ = some (.int .i64 (L.getD i w0).r) ∧ wr.cell? ⟨g, i * 3 + 1, none⟩ = some (.int .u64 (L.getD i w0).s) ∧ wr.cell? ⟨g, i * 3 + 2, none⟩ = some (.int .i64 (L.getD i w0).p)) := by
              intro wr hw i hi
              obtain ⟨g, e, c0, c1, c2⟩ := hA1 i hi
              exact ⟨g, e, (still_of hw).cell c0 id, (still_of hw).cell c1 id, (still_of hw).cell c2 id⟩
            have HSN : Hid (∀ i, i + 1 < L.length → fore (L.getD i w0) (L.getD (i + 1) w0) = true) := fun i hi => srt_next HOK.out.srt hi
            clear hA1 q2
            obtain ⟨n, hn⟩ : ∃ n, n = L.length := ⟨_, rfl⟩
            rw [← hn] at HLA HSN hL8 ⊢
            have HNL := Lib.hid hn
            clear hn
            go_wp2_with fail
            go_loopw [83] (fun u wr => ∃ i : Nat, i ≤ n ∧ u = .int .i64 (i : Int) ∧ Below V2.heap.size V2 wr) (fun u _ => n - (intOf u).toNat)
            case atStart => exact ⟨0, Nat.zero_le _, rfl, Below.refl _ _⟩
            case round =>
              obtain ⟨i, hi, rfl, hb⟩ := hrel
              by_cases hlt3 : i < n
              · have i0 : (0 : Int) ≤ (i : Int) := by omega
                have i1 : (i : Int) < (n : Int) := by omega
                have HJ := Lib.hid hlt3
                have HB := Lib.hid hb
                have x4 : IntKind.i64.wrap ((i : Int) + 1) = (i : Int) + 1 := IntWalk.i64_in _ (by omega)
                by_cases hz : i = 0
                · have z1 : decide ((0 : Int) < (i : Int)) = false := by simp; omega
                  have z2 : decide (0 < i) = false := by simp; omega
                  have HB' : Hid (∀ nq, Below V2.heap.size V2 (wr.drewN nq)) := fun nq => ⟨hb.os, hb.tape, hb.output, hb.size, hb.block⟩
                  clear hb hi HB
                  go_wp2_with fail
                  go_quiet (fail)
                  go_wp2
                  go_roundw
                  case rel => exact ⟨i + 1, HJ.out, by go_num, HB'.out nq⟩
                  case measure => have := HJ.out; simp [intOf]; omega
                · obtain ⟨h, hh⟩ : ∃ h, i = h + 1 := ⟨i - 1, by omega⟩
                  have z1 : decide ((0 : Int) < (i : Int)) = true := by simp; omega
                  have z2 : decide (0 < i) = true := by simp; omega
                  have z3 : IntKind.i64.wrap ((i : Int) - 1) = (h : Int) := by rw [IntWalk.i64_in _ (by omega)]; omega
                  have h0 : (0 : Int) ≤ (h : Int) := by omega
                  have h1 : (h : Int) < (n : Int) := by omega
                  have hbd : Below V2.heap.size V2 wr.drew := ⟨hb.os, hb.tape, hb.output, hb.size, hb.block⟩
                  obtain ⟨g, rfl, z10, z11, z12⟩ := HLA.out wr.drew hbd h (by omega)
                  obtain ⟨g', eg, u10', u11', u12'⟩ := HLA.out wr.drew hbd i hlt3
                  cases eg
                  have hf := HSN.out h (by omega)
                  rw [← hh] at hf
                  have HC := Lib.hid (fun W => ahead_any W (L.getD h w0) (L.getD i w0))
                  rw [hf] at HC
                  have hd0 : Below wr.heap.size wr wr.drew := ⟨rfl, rfl, rfl, Nat.le_refl _, fun _ _ => rfl⟩
                  generalize L.getD h w0 = y at *
                  generalize L.getD i w0 = z at *
                  obtain ⟨y0, y1, y2⟩ := y
                  obtain ⟨z0, zz1, zz2⟩ := z
                  simp only [wv] at HC z10 z11 z12 u10' u11' u12'
                  have HSC : Hid (∀ W9, Below wr.heap.size wr W9 → (W9.cell? ⟨g, h * 3, none⟩ = some (.int .i64 y0) ∧ W9.cell? ⟨g, h * 3 + 1, none⟩ = some (.int .u64 y1) ∧ W9.cell? ⟨g, h * 3 + 2, none⟩ = some (.int .i64 y2)) ∧ (W9.cell? ⟨g, i * 3, none⟩ = some (.int .i64 z0) ∧ W9.cell? ⟨g, i * 3 + 1, none⟩ = some (.int .u64 zz1) ∧ W9.cell? ⟨g, i * 3 + 2, none⟩ = some (.int .i64 zz2))) := by
                    intro W9 hW9
                    have s := still_of hW9
                    exact ⟨⟨s.cell (w := wr) z10 id, s.cell (w := wr) z11 id, s.cell (w := wr) z12 id⟩, ⟨s.cell (w := wr) u10' id, s.cell (w := wr) u11' id, s.cell (w := wr) u12' id⟩⟩
                  clear hb hi hh hf hbd hz
                  go_wp2_with fail
                  go_region_held3 (fun W => Below wr.heap.size wr W ∧ (W.cell? ⟨g, h * 3, none⟩ = some (.int .i64 y0) ∧ W.cell? ⟨g, h * 3 + 1, none⟩ = some (.int .u64 y1) ∧ W.cell? ⟨g, h * 3 + 2, none⟩ = some (.int .i64 y2)) ∧ (W.cell? ⟨g, i * 3, none⟩ = some (.int .i64 z0) ∧ W.cell? ⟨g, i * 3 + 1, none⟩ = some (.int .u64 zz1) ∧ W.cell? ⟨g, i * 3 + 2, none⟩ = some (.int .i64 zz2))) (first | exact ⟨hd0, ⟨z10, z11, z12⟩, ⟨u10', u11', u12'⟩⟩ | exact ⟨hb9, HSC.out _ hb9⟩) (first | (go_at_call 27; (with_reducible refine (HC.out wr.drew).mono ?_); rintro e w9 ⟨rfl, hb9', _⟩; have hb9 : Below wr.heap.size wr w9 := ⟨hb9'.os, hb9'.tape, hb9'.output, hb9'.size, hb9'.block⟩))
                  have HB9 := Lib.hid (HB.out.trans (hb9.mono HB.out.size))
                  go_wp2
                  go_roundw
                  case rel => exact ⟨i + 1, HJ.out, by go_num, HB9.out⟩
                  case measure => have := HJ.out; simp [intOf]; omega
              · obtain rfl : i = n := by omega
                have HB3 := Lib.hid (HB2.out.trans (hb.mono HB2.out.size))
                have HQ3 := Lib.hid (HQ2.out.still hb)
                have HIA3 := Lib.hid (HIA.out.still (still_of hb))
                have HSm := Lib.hid (same_any HIA3.out (HIB.out.still (still_of hb)) (by rw [← HNL.out]; omega))
                rw [decide_eq_true (rfl : L = L), ← HNL.out] at HSm
                clear hb hi HLA HSN HIB HIA HQ2 HB2
                go_wp2_with fail
                refine HSm.out.mono ?_
                rintro e' V4 ⟨rfl, s4⟩
                have HB4 := Lib.hid (HB3.out.trans (s4.below (B := w.heap.size) (fun _ h => h.elim) HB3.out.size))
                have hq4 := HQ3.out.kept s4 id
                have ha4 := HIA3.out.still s4
                have HCt := Lib.hid (cut_at2 hq4 r)
                rw [cut_rest HOK.out] at HCt
                obtain ⟨hb, hhb⟩ : ∃ hb, hb = has L r := ⟨_, rfl⟩
                have HHB := Lib.hid hhb
                rw [← hhb] at HCt
                clear s4 HSm HB3 HQ3 HIA3 hq4 hhb
                go_wp2_with fail
                refine HCt.out.mono ?_
                rintro e' V5 ⟨rfl, q5, k5⟩
                have HB5 := Lib.hid (HB4.out.trans (k5.below (B := w.heap.size) (fun k hk => by omega) HB4.out.size))
                have ha5 := ha4.kept k5 (fun k hk => OA.out k hk)
                have HA5 := Lib.hid (all_w (p := some ⟨W0.heap.size, 0, none⟩) (.inr ⟨_, rfl, q5⟩))
                clear k5 HCt HB4 ha4 q5
                go_wp2_with fail
                refine HA5.out.mono ?_
                rintro e' V6 ⟨vc, rfl, ic, _, b6⟩
                have ha6 := ha5.still (still_of b6)
                have HB6 := Lib.hid (HB5.out.trans (b6.mono HB5.out.size))
                clear b6 HA5 HB5 ha5
                obtain ⟨A3, c3, rfl, hA3⟩ := ic
                obtain ⟨A4, c4, e4, hA4⟩ := ha6
                cases e4
                have HLA : Hid (∀ wr, Still V6 wr → ∀ j, j < L.length → ∃ g, A1 = some ⟨g, 0, none⟩ ∧ wr.cell? ⟨g, j * 3, none⟩ = some (.int .i64 (L.getD j w0).r) ∧ wr.cell? ⟨g, j * 3 + 1, none⟩ = some (.int .u64 (L.getD j w0).s) ∧ wr.cell? ⟨g, j * 3 + 2, none⟩ = some (.int .i64 (L.getD j w0).p)) := by
                  intro wr hw j hj
                  obtain ⟨g, e, c0, c1, c2⟩ := hA4 j hj
                  exact ⟨g, e, hw.cell c0 id, hw.cell c1 id, hw.cell c2 id⟩
                have HLC : Hid (∀ wr, Still V6 wr → ∀ j, j < (rest L r).length → ∃ g, A3 = some ⟨g, 0, none⟩ ∧ wr.cell? ⟨g, j * 3, none⟩ = some (.int .i64 ((rest L r).getD j w0).r) ∧ wr.cell? ⟨g, j * 3 + 1, none⟩ = some (.int .u64 ((rest L r).getD j w0).s) ∧ wr.cell? ⟨g, j * 3 + 2, none⟩ = some (.int .i64 ((rest L r).getD j w0).p)) := by
                  intro wr hw j hj
                  obtain ⟨g, e, c0, c1, c2⟩ := hA3 j hj
                  exact ⟨g, e, hw.cell c0 id, hw.cell c1 id, hw.cell c2 id⟩
                have HTk : Hid (∀ j, j < L.length → (L.getD j w0).r = r → (rest (L.take (j + 1)) r).length = (rest (L.take j) r).length) := fun j hj h => by rw [rest_take hj, if_pos h, List.append_nil]
                have HTk2 : Hid (∀ j, j < L.length → (L.getD j w0).r ≠ r → (rest (L.take (j + 1)) r).length = (rest (L.take j) r).length + 1) := fun j hj h => by rw [rest_take hj, if_neg h]; simp
                have HGt : Hid (∀ j, j < L.length → (L.getD j w0).r ≠ r → (rest (L.take j) r).length < (rest L r).length ∧ (rest L r).getD (rest (L.take j) r).length w0 = L.getD j w0) := fun j hj h => rest_get hj h
                have HFin : Hid ((rest (L.take L.length) r).length = (rest L r).length) := by show _ = _; rw [List.take_length]
                have HHb : Hid (hb = decide ((rest L r).length < L.length)) := by show _ = _; rw [HHB.out]; exact rest_lt L r
                have hm8 : (rest L r).length ≤ 8 := by have := rest_len L r; have := HNL.out; omega
                clear hA3 hA4 HHB HOK
                have hEq : ∀ (x0 x1 x2 : Int) (w : World), (binOp .neq 40 (.agg #[.int .i64 x0, .int .u64 x1, .int .i64 x2]) (.agg #[.int .i64 x0, .int .u64 x1, .int .i64 x2])).run Try.prog w = .ok (.bool false) w := fun x0 x1 x2 w => by
                  rw [run_neq_struct, eqWt]; simp [Result.andThen]
                rw [← HNL.out] at HLA HTk HTk2 HGt HFin HHb
                generalize (rest L r).length = m at *
                have HW6 : Hid (Still V6 V6) := Kept.refl _ _
                have HZ0 : Hid ((rest (L.take 0) r).length = 0) := rfl
                go_wp2_with fail
                go_loopw [113, 16] (fun u q wr => ∃ i2 kk : Nat, i2 ≤ i ∧ u = .int .i64 (i2 : Int) ∧ q = .int .i64 (kk : Int) ∧ kk = (rest (L.take i2) r).length ∧ Still V6 wr) (fun u _ _ => i - (intOf u).toNat)
                case atStart => exact ⟨0, 0, Nat.zero_le _, rfl, rfl, HZ0.out.symm, HW6.out⟩
                case round =>
                  obtain ⟨i2, kk, hi2, rfl, rfl, hkk, hs⟩ := hrel
                  by_cases hlt4 : i2 < i
                  · obtain ⟨g, rfl, a0, a1, a2⟩ := HLA.out wr hs i2 hlt4
                    have i0 : (0 : Int) ≤ (i2 : Int) := by omega
                    have i1 : (i2 : Int) < (i : Int) := by omega
                    have x4 : IntKind.i64.wrap ((i2 : Int) + 1) = (i2 : Int) + 1 := IntWalk.i64_in _ (by omega)
                    have HJ := Lib.hid hlt4
                    have HS := Lib.hid hs
                    by_cases hrr : (L.getD i2 w0).r = r
                    · have HK : Hid (kk = (rest (L.take (i2 + 1)) r).length) := by show _ = _; rw [HTk.out i2 hlt4 hrr, hkk]
                      clear hkk hs hi2
                      generalize L.getD i2 w0 = x at *
                      obtain ⟨x0, x1, x2⟩ := x
                      simp only at hrr a0 a1 a2
                      subst hrr
                      go_wp2
                      go_roundw
                      case rel => exact ⟨i2 + 1, kk, HJ.out, by go_num, rfl, HK.out, HS.out⟩
                      case measure => have := HJ.out; simp [intOf]; omega
                    · obtain ⟨g1, g2⟩ := HGt.out i2 hlt4 hrr
                      have HK : Hid (kk + 1 = (rest (L.take (i2 + 1)) r).length) := by show _ = _; rw [HTk2.out i2 hlt4 hrr, hkk]
                      rw [← hkk] at g1 g2
                      have hd : Still V6 wr.drew := hs.drew
                      obtain ⟨gc, rfl, d0, d1, d2⟩ := HLC.out wr hs kk g1
                      rw [g2] at d0 d1 d2
                      have k0 : (0 : Int) ≤ (kk : Int) := by omega
                      have k1 : (kk : Int) < (m : Int) := by omega
                      have e5 : decide ((m : Int) ≤ (kk : Int)) = false := by simp; omega
                      have e6 : decide (m ≤ kk) = false := by simp; omega
                      have x5 : IntKind.i64.wrap ((kk : Int) + 1) = (kk : Int) + 1 := IntWalk.i64_in _ (by omega)
                      clear hkk hs hi2 g1 g2 hd
                      generalize L.getD i2 w0 = x at *
                      obtain ⟨x0, x1, x2⟩ := x
                      simp only at hrr a0 a1 a2 d0 d1 d2
                      have e7 : (x0 == r) = false := by simpa using hrr
                      go_wp2
                      go_quiet (fail)
                      go_wp2
                      go_roundw
                      case rel => exact ⟨i2 + 1, kk + 1, HJ.out, by go_num, by go_num, HK.out, HS.out.drewN nq⟩
                      case measure => have := HJ.out; simp [intOf]; omega
                  · obtain rfl : i2 = i := by omega
                    have hkm : kk = m := by rw [hkk, HFin.out]
                    subst hkm
                    have HF := Lib.hid (HB6.out.trans (hs.below (B := w.heap.size) (fun _ h => h.elim) HB6.out.size))
                    by_cases hlt5 : kk < i2
                    · have f1 : hb = true := by rw [HHb.out]; simpa using hlt5
                      have f2 : decide ((kk : Int) < (i2 : Int)) = true := by simpa using hlt5
                      have f3 : decide (kk < i2) = true := by simpa using hlt5
                      subst f1
                      clear hkk hs hi2
                      go_wp2
                      go_ret
                      exact ⟨rfl, HF.out⟩
                    · have f1 : hb = false := by rw [HHb.out]; simpa using hlt5
                      have f2 : decide ((kk : Int) < (i2 : Int)) = false := by simpa using hlt5
                      have f3 : decide (kk < i2) = false := by simpa using hlt5
                      subst f1
                      clear hkk hs hi2
                      go_wp2
                      go_ret
                      exact ⟨rfl, HF.out⟩
end Go.Proofs.Ytnecmlkljijofaa
