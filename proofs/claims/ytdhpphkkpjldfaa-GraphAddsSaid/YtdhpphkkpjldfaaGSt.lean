/-
  The law GraphSteps: its walk.
-/
import Derived.Test.YtdhpphkkpjldfaaGBlt
import Derived.IntWalk
namespace Go.Proofs.Ytdhpphkkpjldfaa
set_option maxRecDepth 100000
open Go Go.RowKit Gq

theorem bfs_le (R : Gr) : ∀ (f : Nat) (M : Mt) (F : List Nat) (far : Nat), ∀ p ∈ (bfs R f M F far).1, p.2 < far + f
  | 0, M, F, far => by simp [bfs]
  | f + 1, M, F, far => by
    intro p hp
    by_cases hF : F = []
    · subst hF; rw [bfs_nil] at hp; simp at hp
    · rw [bfs_succ R f M hF far] at hp
      rcases List.mem_append.1 hp with h | h
      · obtain ⟨v, _, rfl⟩ := List.mem_map.1 h
        show far < _
        omega
      · have := bfs_le R f _ _ _ p h
        omega
theorem lay_le {B : Int} : ∀ (T : List (Nat × Nat)) (D : List Int), (∀ p ∈ T, ((p.2 : Nat) : Int) ≤ B) → (∀ x ∈ D, x ≤ B) → ∀ x ∈ lay T D, x ≤ B
  | [], D, _, h => h
  | p :: T, D, hT, h => by
    have e : lay (p :: T) D = lay T (D.set p.1 (p.2 : Int)) := rfl
    rw [e]
    refine lay_le T _ (fun q hq => hT q (List.mem_cons_of_mem _ hq)) (fun x hx => ?_)
    rcases List.mem_or_eq_of_mem_set hx with hx | rfl
    · exact h x hx
    · exact hT p (List.mem_cons_self ..)
theorem distL_le (R : Gr) (a i : Nat) : dg (distL R a) i ≤ (R.length : Int) := by
  have h : ∀ x ∈ distL R a, x ≤ (R.length : Int) := by
    refine lay_le _ _ (fun p hp => ?_) (fun x hx => ?_)
    · have := bfs_le R _ _ _ _ p hp
      omega
    · have := List.eq_of_mem_replicate hx
      omega
  unfold dg
  by_cases hi : i < (distL R a).length
  · have : (distL R a).getD i (-1) = (distL R a)[i] := by simp [List.getD, hi]
    rw [this]
    exact h _ (List.getElem_mem hi)
  · have : (distL R a).getD i (-1) = -1 := by simp [List.getD, hi]
    rw [this]
    omega

structure StI (w : World) (g b bb : Nat) (R : Gr) (S Sb : Nat → Prop) (D : List Int) (wr : World) : Prop where
  dist : wr.heap[g]? = some (.cells (ic D) 3 (0, 0))
  gr : GAt wr b R S
  bk : GAt wr bb (bkF R) Sb
  lo : Below w.heap.size w wr
theorem ic_cell {wr : World} {g : Nat} {D : List Int} (h : wr.heap[g]? = some (.cells (ic D) 3 (0, 0))) {i : Nat} (hi : i < D.length) : wr.cell? ⟨g, i, none⟩ = some (.int .i64 (dg D i)) := by
  rw [blk_cell h, ic_get hi]
  simp [dg, List.getD, hi]
theorem StI.below {w wr wr' : World} {g b bb : Nat} {R : Gr} {S Sb : Nat → Prop} {D : List Int} (h : StI w g b bb R S Sb D wr) (hb : Below wr.heap.size wr wr') : StI w g b bb R S Sb D wr' :=
  ⟨(hb.block g (blk_lt h.dist)).trans h.dist, h.gr.below hb (Nat.le_refl _), h.bk.below hb (Nat.le_refl _), h.lo.trans (hb.mono h.lo.size)⟩
theorem StI.still {w wr wr' : World} {g b bb : Nat} {R : Gr} {S Sb : Nat → Prop} {D : List Int} (h : StI w g b bb R S Sb D wr) (hs : Still wr wr') : StI w g b bb R S Sb D wr' :=
  h.below (hs.below (fun _ h => h.elim) (Nat.le_refl _))

set_option maxHeartbeats 4000000 in
theorem steps_any {w : World} {A : Option Addr} {l : List Ed} {cap n a : Nat} (hE : EdgesAt w A l) (hl : l.length ≤ maxLen) (hn : n ≤ 255) (ha : a ≤ 255) :
    Calls Try.prog 5 #[.int .u8 (n : Int), .slice A l.length cap, .int .u8 (a : Int)] w fun e w' => e = .returned (.bool true) ∧ Below w.heap.size w w' := by
  have HE := Lib.hid hE
  have hL := hl
  unfold maxLen at hl
  clear hE
  obtain ⟨k, hk⟩ : ∃ k : Nat, k = 1 + n % 40 := ⟨_, rfl⟩
  obtain ⟨f, hf⟩ : ∃ f : Nat, f = a % k := ⟨_, rfl⟩
  have hk1 : 1 ≤ k := by omega
  have hk2 : k ≤ 40 := by omega
  have hfk : f < k := by rw [hf]; exact Nat.mod_lt _ hk1
  have ek : (1 : Int) + (n : Int) % 40 = (k : Int) := by omega
  have ef : (a : Int) % (k : Int) = (f : Int) := by rw [hf]; omega
  have EK := Lib.hid ek
  have EF := Lib.hid ef
  have HL := Lib.hid hL
  clear ek ef hk hf hL hl
  go_enter Try.func5, Try.ntmps5
  go_wp2_with fail
  refine (alive_any _).mono ?_
  rintro e w1 ⟨rfl, hb1⟩
  have HE1 := Lib.hid (HE.out.below hb1 (Nat.le_refl _))
  have HB1 := Lib.hid hb1
  clear hb1
  go_wp2_with (go_at_call 29; fail)
  rw [EK.out]
  refine (built_any (n := k) HE1.out HL.out (by omega)).mono ?_
  rintro e w2 ⟨b, rfl, S, hg, hS, hb2⟩
  have HG2 := Lib.hid hg
  have HB2 := Lib.hid (HB1.out.trans (hb2.mono HB1.out.size))
  have hO : Ok (Gq.built k l) := built_ok (by omega) l
  have hlen : (Gq.built k l).length = k := built_length k l
  clear hg hS hb2 HB1 HE HE1
  generalize Gq.built k l = R at *
  generalize hN : l.length = m at *
  by_cases hm : 300 < m
  · clear HG2
    go_wp2
    go_ret
    exact ⟨rfl, HB2.out⟩
  have HO := Lib.hid hO
  have HLn := Lib.hid hlen
  have HM : Hid (¬ 300 < m) := hm
  clear hO hlen
  go_wp2_with fail
  rw [EF.out]
  refine (dist_any HG2.out HO.out (a := f) (by rw [HLn.out]; exact hfk)).mono ?_
  rintro e w3 ⟨g, n', rfl, hn', hD, _, hb3⟩
  have hfar := (distL_far HO.out (a := f) (by rw [HLn.out]; exact hfk)).1
  have hle : ∀ i, dg (distL R f) i ≤ (k : Int) := fun i => by have := distL_le R f i; rw [HLn.out] at this; exact this
  generalize distL R f = D at *
  have hdl : D.length = k := hfar.len.trans HLn.out
  have HF := Lib.hid hfar
  have HU := Lib.hid hle
  have HD3 := Lib.hid hD
  have HDl := Lib.hid hdl
  have HG3 := Lib.hid (HG2.out.below hb3 (Nat.le_refl _))
  have HB3 := Lib.hid (HB2.out.trans (hb3.mono HB2.out.size))
  have fc : w3.cell? ⟨g, f, none⟩ = some (.int .i64 0) := by rw [ic_cell hD (by omega), (hfar.zero f).2 rfl]
  obtain rfl : n' = k := hn'.trans hdl
  have f0 : (0 : Int) ≤ (f : Int) := by omega
  have f1 : (f : Int) < (n' : Int) := by omega
  clear hfar hle hD hdl hb3 hn' HG2 HB2
  go_wp2_with fail
  refine (back_any HG3.out HO.out).mono ?_
  rintro e w4 ⟨bb, rfl, Sb, hbk, hSb, hb4⟩
  have HI : Hid (StI w g b bb R S Sb D w4) := ⟨(hb4.block g (blk_lt HD3.out)).trans HD3.out, HG3.out.below hb4 (Nat.le_refl _), hbk, HB3.out.trans (hb4.mono HB3.out.size)⟩
  clear hbk hSb hb4 HD3 HG3 HB3 fc
  go_wp2
  go_loopw [61] (fun u wr => ∃ i : Nat, i ≤ n' ∧ u = .int .i64 (i : Int) ∧ StI w g b bb R S Sb D wr) (fun u _ => n' - (intOf u).toNat)
  case atStart => exact ⟨0, Nat.zero_le _, rfl, HI.out⟩
  case round =>
    obtain ⟨i, hi, rfl, hst⟩ := hrel
    clear HI
    have HI := Lib.hid hst
    clear hst
    by_cases hlt : i < n'
    · have i0 : (0 : Int) ≤ (i : Int) := by omega
      have i1 : (i : Int) < (n' : Int) := by omega
      go_wp2_with fail
      refine (out_any HI.out.gr HO.out (a := i) (by rw [HLn.out]; exact hlt)).mono ?_
      rintro e w5 ⟨v5, rfl, hr5, _, hb5⟩
      have HI5 := Lib.hid (HI.out.below hb5)
      obtain ⟨A5, c5, rfl, _, hc5⟩ := hr5.isL
      rw [ints_length] at hc5 ⊢
      have HA : Hid (∀ wr, Still w5 wr → ∀ j, j < (row R i).length → ∃ q, A5 = some ⟨q, 0, none⟩ ∧ wr.cell? ⟨q, j, none⟩ = some (.int .i64 (((row R i).getD j 0 : Nat) : Int))) := by
        intro wr hk j hj
        obtain ⟨q, e, hc⟩ := hc5 j hj
        rw [ints_get] at hc
        exact ⟨q, e, hk.cell hc id⟩
      have HC : Hid (∀ j, j < (row R i).length → (row R i).getD j 0 < n' ∧ (0 ≤ dg D i → 0 ≤ dg D ((row R i).getD j 0) ∧ dg D ((row R i).getD j 0) ≤ dg D i + 1)) := by
        intro j hj
        have hm : (row R i).getD j 0 ∈ row R i := by
          have : (row R i).getD j 0 = (row R i)[j] := by simp [List.getD, hj]
          rw [this]; exact List.getElem_mem hj
        exact ⟨by rw [← HLn.out]; exact HO.out.node _ _ hm, fun h0 => HF.out.step _ _ hm h0⟩
      have HX : Hid (-1 ≤ dg D i ∧ dg D i ≤ (n' : Int)) := ⟨HF.out.lo i, HU.out i⟩
      have hb5' : (row R i).length ≤ n' := by rw [← HLn.out]; exact HO.out.len i
      clear hr5 hb5 hc5 HI
      generalize hs5 : (row R i).length = s5 at *
      have HS5 := Lib.hid hs5
      clear hs5
      go_wp2
      go_loopw [68] (fun u wr => ∃ j : Nat, j ≤ s5 ∧ u = .int .i64 (j : Int) ∧ Still w5 wr) (fun u _ => s5 - (intOf u).toNat)
      case atStart => exact ⟨0, Nat.zero_le _, rfl, Kept.refl _ _⟩
      case round =>
        obtain ⟨j, hj, rfl, hw⟩ := hrel
        have HW := Lib.hid hw
        clear hw
        by_cases hjl : j < s5
        · obtain ⟨q, rfl, fa⟩ := HA.out wr HW.out j hjl
          obtain ⟨hc1, hc2⟩ := HC.out j hjl
          obtain ⟨hx1, hx2⟩ := HX.out
          have fi := ic_cell (HI5.out.still HW.out).dist (i := i) (by rw [HDl.out]; exact hlt)
          have fc := ic_cell (HI5.out.still HW.out).dist (i := (row R i).getD j 0) (by rw [HDl.out]; exact hc1)
          generalize (row R i).getD j 0 = c at *
          generalize dg D i = x at *
          generalize dg D c = y at *
          have j0 : (0 : Int) ≤ (j : Int) := by omega
          have j1 : (j : Int) < (s5 : Int) := by omega
          have c0 : (0 : Int) ≤ (c : Int) := by omega
          have c1 : (c : Int) < (n' : Int) := by omega
          have hwx : IntKind.i64.wrap (x + 1) = x + 1 := IntWalk.i64_in _ (by omega)
          by_cases hx : 0 ≤ x
          · obtain ⟨y0, y1⟩ := hc2 hx
            have d1 : decide (0 ≤ x) = true := decide_eq_true hx
            have d2 : decide (y < 0) = false := decide_eq_false (by omega)
            have d3 : decide (x + 1 < y) = false := decide_eq_false (by omega)
            clear hc2 hx1 hx2
            go_wp2
            go_quiet (fail)
            go_wp2
            go_roundw
            case rel => exact ⟨j + 1, by omega, by go_num, HW.out.drewN nq⟩
            case measure => simp [intOf]; omega
          · have d1 : decide (0 ≤ x) = false := decide_eq_false hx
            clear hc2 hx1 hx2
            go_wp2
            go_quiet (fail)
            go_wp2
            go_roundw
            case rel => exact ⟨j + 1, by omega, by go_num, HW.out.drewN nq⟩
            case measure => simp [intOf]; omega
        · obtain rfl : j = s5 := by omega
          have HI6 := Lib.hid (HI5.out.still HW.out)
          have fi := ic_cell HI6.out.dist (i := i) (by rw [HDl.out]; exact hlt)
          have HZ : Hid (dg D i = 0 ↔ i = f) := HF.out.zero i
          have HP : Hid (1 ≤ dg D i → ∃ b', b' ∈ row (bkF R) i ∧ dg D b' = dg D i - 1) := fun h => by
            obtain ⟨b', h1, h2⟩ := HF.out.pred i h
            exact ⟨b', (mem_bkF HO.out).2 h1, h2⟩
          obtain ⟨hx1, hx2⟩ := HX.out
          clear HA HC HI5 HW HX
          generalize hgx : dg D i = x at *
          have HGX := Lib.hid hgx
          clear hgx
          by_cases hx : x < 1
          · by_cases hx0 : x = 0
            · obtain rfl : i = f := HZ.out.1 hx0
              subst hx0
              go_wp2
              go_roundw
              case rel => exact ⟨i + 1, by omega, by go_num, HI6.out⟩
              case measure => simp [intOf]; omega
            · have e1 : (x == 0) = false := by simpa using hx0
              have e2 : decide (x = 0) = false := decide_eq_false hx0
              go_wp2
              go_roundw
              case rel => exact ⟨i + 1, by omega, by go_num, HI6.out⟩
              case measure => simp [intOf]; omega
          · have HPP := Lib.hid (HP.out (by omega))
            clear HP HZ
            go_wp2_with fail
            refine (out_any HI6.out.bk (bkF_ok HO.out) (a := i) (by rw [bkF_length, HLn.out]; exact hlt)).mono ?_
            rintro e w6 ⟨v6, rfl, hr6, _, hb6⟩
            have HI7 := Lib.hid (HI6.out.below hb6)
            obtain ⟨A6, c6, rfl, _, hc6⟩ := hr6.isL
            rw [ints_length] at hc6 ⊢
            have HA : Hid (∀ wr, Still w6 wr → ∀ j, j < (row (bkF R) i).length → ∃ q, A6 = some ⟨q, 0, none⟩ ∧ wr.cell? ⟨q, j, none⟩ = some (.int .i64 (((row (bkF R) i).getD j 0 : Nat) : Int))) := by
              intro wr hk j hj
              obtain ⟨q, e, hc⟩ := hc6 j hj
              rw [ints_get] at hc
              exact ⟨q, e, hk.cell hc id⟩
            have HC : Hid (∀ j, j < (row (bkF R) i).length → (row (bkF R) i).getD j 0 < n') := by
              intro j hj
              have hm : (row (bkF R) i).getD j 0 ∈ row (bkF R) i := by
                have : (row (bkF R) i).getD j 0 = (row (bkF R) i)[j] := by simp [List.getD, hj]
                rw [this]; exact List.getElem_mem hj
              have := (bkF_ok HO.out).node _ _ hm
              rw [bkF_length, HLn.out] at this
              exact this
            have HN : Hid (∃ j, j < (row (bkF R) i).length ∧ dg D ((row (bkF R) i).getD j 0) = x - 1) := by
              obtain ⟨b', h1, h2⟩ := HPP.out
              obtain ⟨j, hj, rfl⟩ := List.getElem_of_mem h1
              refine ⟨j, hj, ?_⟩
              have : (row (bkF R) i).getD j 0 = (row (bkF R) i)[j] := by simp [List.getD, hj]
              rw [this]; exact h2
            have hb6' : (row (bkF R) i).length ≤ n' := by have := (bkF_ok HO.out).len i; rw [bkF_length, HLn.out] at this; exact this
            clear hr6 hb6 hc6 HI6 HPP fi
            generalize row (bkF R) i = L6 at *
            generalize hs6 : L6.length = s6 at *
            have HS6 := Lib.hid hs6
            clear hs6
            have hwx : IntKind.i64.wrap (x - 1) = x - 1 := IntWalk.i64_in _ (by omega)
            go_wp2
            go_loopw [16, 116] (fun v u wr => ∃ (z : Nat) (nb : Bool), z ≤ s6 ∧ u = .int .i64 (z : Int) ∧ v = .bool nb ∧ Still w6 wr ∧ ((∃ z', z' < z ∧ dg D (L6.getD z' 0) = x - 1) → nb = true)) (fun _ u _ => s6 - (intOf u).toNat)
            case atStart => exact ⟨0, false, Nat.zero_le _, rfl, rfl, Kept.refl _ _, fun ⟨z', h, _⟩ => by omega⟩
            case round =>
              obtain ⟨z, nb, hz, rfl, rfl, hw, hnb⟩ := hrel
              have HW := Lib.hid hw
              have HNb := Lib.hid hnb
              clear hw hnb
              by_cases hzl : z < s6
              · obtain ⟨q, rfl, fa⟩ := HA.out wr HW.out z hzl
                have hc1 := HC.out z hzl
                have fi := ic_cell (HI7.out.still HW.out).dist (i := i) (by rw [HDl.out]; exact hlt)
                have fc := ic_cell (HI7.out.still HW.out).dist (i := L6.getD z 0) (by rw [HDl.out]; exact hc1)
                rw [HGX.out] at fi
                have HNN : Hid (∀ nb' : Bool, (nb = true → nb' = true) → (dg D (L6.getD z 0) = x - 1 → nb' = true) → ((∃ z', z' < z + 1 ∧ dg D (L6.getD z' 0) = x - 1) → nb' = true)) := by
                  rintro nb' h1 h2 ⟨z', h3, h4⟩
                  by_cases e : z' = z
                  · subst e; exact h2 h4
                  · exact h1 (HNb.out ⟨z', by omega, h4⟩)
                generalize L6.getD z 0 = c at *
                generalize dg D c = y at *
                have j0 : (0 : Int) ≤ (z : Int) := by omega
                have j1 : (z : Int) < (s6 : Int) := by omega
                have c0 : (0 : Int) ≤ (c : Int) := by omega
                have c1 : (c : Int) < (n' : Int) := by omega
                cases nb with
                | true =>
                  go_wp2
                  go_quiet (fail)
                  go_wp2
                  go_roundw
                  case rel => exact ⟨z + 1, true, by omega, by go_num, rfl, HW.out.drewN nq, fun _ => rfl⟩
                  case measure => simp [intOf]; omega
                | false =>
                  by_cases hy : y = x - 1
                  · have e1 : (y == x - 1) = true := by simpa using hy
                    have e2 : decide (y = x - 1) = true := decide_eq_true hy
                    go_wp2
                    go_quiet (fail)
                    go_wp2
                    go_roundw
                    case rel => exact ⟨z + 1, true, by omega, by go_num, rfl, HW.out.drewN nq, fun _ => rfl⟩
                    case measure => simp [intOf]; omega
                  · have e1 : (y == x - 1) = false := by simpa using hy
                    have e2 : decide (y = x - 1) = false := decide_eq_false hy
                    go_wp2
                    go_quiet (fail)
                    go_wp2
                    go_roundw
                    case rel => exact ⟨z + 1, false, by omega, by go_num, rfl, HW.out.drewN nq, HNN.out false (fun h => h) (fun h => absurd h hy)⟩
                    case measure => simp [intOf]; omega
              · obtain rfl : z = s6 := by omega
                obtain rfl : nb = true := HNb.out HN.out
                have HI8 := Lib.hid (HI7.out.still HW.out)
                go_wp2
                go_roundw
                case rel => exact ⟨i + 1, by omega, by go_num, HI8.out⟩
                case measure => simp [intOf]; omega
    · obtain rfl : i = n' := by omega
      go_wp2
      go_ret
      exact ⟨rfl, HI.out.lo⟩
end Go.Proofs.Ytdhpphkkpjldfaa
