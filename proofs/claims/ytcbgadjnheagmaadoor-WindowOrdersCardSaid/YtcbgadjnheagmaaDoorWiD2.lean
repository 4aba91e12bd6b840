/-
  The law WindowOrders: few numbers.
-/
import Derived.Test.YtcbgadjnheagmaaDoorWiD
import Derived.RegionTactic
namespace Go.Proofs.YtcbgadjnheagmaaDoor
set_option maxRecDepth 100000
set_option linter.unusedSimpArgs false
open Go Go.RowKit

set_option maxHeartbeats 2000000 in
theorem orders_few {w : World} {A B : Option Addr} {L O : List Nat} {ca cb : Nat} (hT : Tab w) (hA : NumsAt .u8 w A L) (hAn : A = none → L = [] ∧ ca = 0) (hL : ∀ x ∈ L, x ≤ 255) (hB : NumsAt .u8 w B O) (hO : ∀ x ∈ O, x ≤ 255) (hl : L.length ≤ 64) (ho : O.length ≤ 64) :
    Calls Tryd.prog 6 #[.slice A L.length ca, .slice B O.length cb] w fun e w' => e = .returned (.bool true) ∧ Below w.heap.size w w' := by
  have HA := Lib.hid (alive_any hT)
  have HT := Lib.hid hT
  have HL : Hid (∀ W j, Below w.heap.size w W → j < L.length → ∃ a, A = some a ∧ W.cell? (a.add j) = some (.int .u8 ((L.getD j 0 : Nat) : Int))) := by
    intro W j hb hj
    obtain ⟨a, h1, _, h2⟩ := (hA.below hb (Nat.le_refl _)) j hj
    exact ⟨a, h1, h2⟩
  have HO : Hid (∀ W j, Below w.heap.size w W → j < O.length → ∃ a, B = some a ∧ W.cell? (a.add j) = some (.int .u8 ((O.getD j 0 : Nat) : Int)) ∧ O.getD j 0 ≤ 255) := by
    intro W j hb hj
    obtain ⟨a, h1, _, h2⟩ := (hB.below hb (Nat.le_refl _)) j hj
    refine ⟨a, h1, h2, hO _ ?_⟩
    rw [List.getD_eq_getElem?_getD, List.getElem?_eq_getElem hj]
    exact List.getElem_mem hj
  have HLB : Hid (∀ M : List Nat, M.Perm L → ∀ j, j < L.length → M.getD j 0 ≤ 255) := by
    intro M hp j hj
    have hj' : j < M.length := by rw [hp.length_eq]; exact hj
    refine hL _ (hp.mem_iff.1 ?_)
    rw [List.getD_eq_getElem?_getD, List.getElem?_eq_getElem hj']
    exact List.getElem_mem hj'
  have HAb := Lib.hid (fun W (hb : Below w.heap.size w W) => hA.below hb (Nat.le_refl _))
  have HAN := Lib.hid hAn
  obtain ⟨n, hn⟩ : ∃ n, n = L.length := ⟨_, rfl⟩
  obtain ⟨m, hm⟩ : ∃ m, m = O.length := ⟨_, rfl⟩
  rw [← hn] at hl HL HLB ⊢
  rw [← hm] at ho HO ⊢
  have e1 : decide ((64 : Int) < (n : Int)) = false := by simp; omega
  have e2 : decide (64 < n) = false := by simp; omega
  have e3 : decide ((64 : Int) < (m : Int)) = false := by simp; omega
  have e4 : decide (64 < m) = false := by simp; omega
  have HN := Lib.hid hn
  have HNL := Lib.hid hl
  have HML := Lib.hid ho
  clear hT hA hAn hL hB hO hl ho hn hm
  go_enter Tryd.func6, Tryd.ntmps6
  go_wp2_with fail
  refine HA.out.mono ?_
  rintro e w1 ⟨rfl, hb1⟩
  have HB1 := Lib.hid hb1
  have HAw := Lib.hid (HAb.out (w1.alloc (.cells #[] 5)) (hb1.alloc hb1.size _))
  clear hb1 HA
  go_wp2_with (at_builtin; refine wpList_append_u8 rfl (.tmp 26) (.tmp 27) rfl w.heap.size (n := 0) (L := []) rfl (World.ownsRow_made w1 #[] 0 HB1.out.size (Nat.zero_le _) (by simp)) (m := n) (news := L) rfl HAw.out HN.out HAN.out (by have := HNL.out; omega) (by rw [World.size_alloc]; have := HB1.out.size; omega) ?_; intro v' w2 hv' hg; obtain ⟨ad, cap, hv⟩ := row_sl hv'; rw [Nat.zero_add] at hv; rw [hv]; rw [hv] at hv'; clear hv)
  have HM0 : Hid (MyU w n ad cap L w2) := ⟨by rw [Nat.zero_add, List.nil_append] at hv'; exact hv', HN.out.symm, ((HB1.out.alloc HB1.out.size _).grown hg (by rw [World.size_alloc]; have := HB1.out.size; omega) (fun k e => by have e2 : some w1.heap.size = some k := e; cases e2; exact HB1.out.size))⟩
  clear hv' hg HAw
  have HS : Hid (∃ (j : Nat) (M : List Nat), j ≤ n ∧ (Value.int .i64 0) = .int .i64 (j : Int) ∧ M.Perm L ∧ MyU w n ad cap M w2) := ⟨0, L, Nat.zero_le _, rfl, List.Perm.refl _, HM0.out⟩
  clear HM0
  go_wp2
  go_loopw [31] (fun i wr => ∃ (j : Nat) (M : List Nat), j ≤ n ∧ i = .int .i64 (j : Int) ∧ M.Perm L ∧ MyU w n ad cap M wr) (fun i _ => n - (intOf i).toNat)
  case atStart => exact HS.out
  case round =>
    obtain ⟨j, M, hj, rfl, hp, hM⟩ := hrel
    rename World => V
    clear HS
    by_cases hjn : j < n
    · have s1 : IntKind.i64.wrap ((j : Int) + 1) = (j : Int) + 1 := IntWalk.i64_in _ (by have := HNL.out; omega)
      have j0 : (0 : Int) ≤ (j : Int) := by omega
      have j1 : (j : Int) < (n : Int) := by omega
      have d0 : decide ((j : Int) < (n : Int)) = true := by simpa using hjn
      have HJ := Lib.hid hjn
      by_cases hjm : j < m
      · obtain ⟨g, rfl, hc⟩ := hM.cell hjn
        obtain ⟨a, rfl, ho, ho2⟩ := HO.out V j hM.below hjm
        generalize O.getD j 0 = o at *
        have hk : o % n < n := Nat.mod_lt _ (by omega)
        have s2 : Int.tmod (o : Int) (n : Int) = ((o % n : Nat) : Int) := rfl
        have s3 : IntKind.i64.wrap (o : Int) = (o : Int) := IntWalk.i64_in _ (by omega)
        have hn0 : ¬ ((n : Int) = 0) := by omega
        have d1 : decide ((j : Int) < (m : Int)) = true := by simpa using hjm
        have j2 : (j : Int) < (m : Int) := by omega
        have hpr := Wd.swap_perm (M := M) (i := j) (k := o % n) (by rw [hM.len]; exact hjn) (by rw [hM.len]; exact hk)
        obtain ⟨cj, fj⟩ := hc j hjn
        obtain ⟨ck, fk⟩ := hc (o % n) hk
        have HX : Hid (∃ (j' : Nat) (M' : List Nat), j' ≤ n ∧ (Value.int .i64 ((j : Int) + 1)) = .int .i64 (j' : Int) ∧ M'.Perm L ∧ MyU w n (some ⟨g, 0, none⟩) cap M' ((V.setCell ⟨g, j, none⟩ (.int .u8 ((M.getD (o % n) 0 : Nat) : Int))).setCell ⟨g, o % n, none⟩ (.int .u8 ((M.getD j 0 : Nat) : Int))).drew) :=
          ⟨j + 1, _, hjn, by push_cast; rfl, hpr.trans hp, ((hM.set j _).set (o % n) _).drew⟩
        have hsame : o % n = j → M.getD (o % n) 0 = M.getD j 0 := fun e => by rw [e]
        generalize o % n = k at *
        generalize M.getD j 0 = x at *
        generalize M.getD k 0 = y at *
        have k0 : (0 : Int) ≤ (k : Int) := by omega
        have k1 : (k : Int) < (n : Int) := by omega
        clear hM hp hpr hc hj hjn hjm hk ho2
        by_cases hjk : k = j
        · subst hjk
          obtain rfl := hsame rfl
          clear hsame
          go_wp2
          go_region
          go_wp2
          exact ⟨HX.out, by simp [intOf]; have := HJ.out; omega⟩
        · clear hsame
          have hjk' : ¬ j = k := fun e => hjk e.symm
          go_wp2
          go_region
          go_wp2
          exact ⟨HX.out, by simp [intOf]; have := HJ.out; omega⟩
      · have d1 : decide ((j : Int) < (m : Int)) = false := by simp; omega
        have d2 : decide (j < m) = false := by simp; omega
        have HX : Hid (∃ (j' : Nat) (M' : List Nat), j' ≤ n ∧ (Value.int .i64 ((j : Int) + 1)) = .int .i64 (j' : Int) ∧ M'.Perm L ∧ MyU w n ad cap M' V) := ⟨j + 1, M, hjn, by push_cast; rfl, hp, hM⟩
        clear hM hp hj hjn hjm
        go_wp2
        exact ⟨HX.out, by simp [intOf]; have := HJ.out; omega⟩
    · obtain rfl : j = n := by omega
      have hbV := hM.below
      obtain ⟨w3, hw3⟩ : ∃ w3, (V.alloc (.cells #[.int .u32 0, .int .u64 0] 27)).alloc (.cells #[.int .u32 0, .int .u64 0] 27) = w3 := ⟨_, rfl⟩
      have hb3 : Below w.heap.size w w3 := by rw [← hw3]; exact (hbV.alloc hbV.size _).alloc (by rw [World.size_alloc]; have := hbV.size; omega) _
      have hk3 : Kept (fun _ => False) V w3 := by rw [← hw3]; exact ((Kept.refl _ V).alloc _).alloc _
      have q1 : WinAt w3 V.heap.size 0 0 := by rw [← hw3]; exact (Below.heap_alloc _ _ _ (by simp)).trans (heap_alloc_new V _)
      have q2 : WinAt w3 (V.heap.size + 1) 0 0 := by
        rw [← hw3]
        have := heap_alloc_new (V.alloc (.cells #[.int .u32 0, .int .u64 0] 27)) (.cells #[.int .u32 0, .int .u64 0] 27)
        rw [World.size_alloc] at this
        exact this
      have HP := Lib.hid hp
      have hlt : ∀ g, ad = some g → g.block < V.heap.size := fun g e => (hM.row.lt g.block (by rw [e]; rfl)).2
      have HS : Hid (∃ (i l1 e1 l2 e2 : Nat), i ≤ j ∧ (Value.int .i64 0) = .int .i64 (i : Int) ∧ OrI w V.heap.size j ad cap L M i l1 e1 l2 e2 w3) :=
        ⟨0, 0, 0, 0, 0, Nat.zero_le _, rfl, ⟨q1, Wd.ok_zero, hb3, hbV.size⟩, ⟨q2, Wd.ok_zero, hb3, by have := hbV.size; omega⟩, hM.still hk3 (fun _ _ => id) hb3, hlt, Wd.met_nil, Wd.met_nil⟩
      have HV := Lib.hid hbV.size
      clear hM hp hj hjn hbV hb3 hk3 q1 q2 hlt
      go_wp2
      go_loopw [63] (fun i wr => ∃ (q l1 e1 l2 e2 : Nat), q ≤ j ∧ i = .int .i64 (q : Int) ∧ OrI w V.heap.size j ad cap L M q l1 e1 l2 e2 wr) (fun i _ => j - (intOf i).toNat)
      case atStart => exact HS.out
      case round =>
        obtain ⟨q, l1, e1, l2, e2, hq, rfl, hI⟩ := hrel
        rename World => U
        clear HS hw3
        by_cases hqj : q < j
        · have s1 : IntKind.i64.wrap ((q : Int) + 1) = (q : Int) + 1 := IntWalk.i64_in _ (by have := HNL.out; omega)
          have j0 : (0 : Int) ≤ (q : Int) := by omega
          have j1 : (q : Int) < (j : Int) := by omega
          obtain ⟨a, rfl, hc⟩ := HL.out U q hI.win1.below hqj
          obtain ⟨g, rfl, hc2⟩ := hI.my.cell hqj
          obtain ⟨cq, _⟩ := hc2 q hqj
          have hx := HLB.out L (List.Perm.refl _) q hqj
          have hy := HLB.out M HP.out q hqj
          have htL : L.take (q + 1) = L.take q ++ [L.getD q 0] := take_succ (by rw [← HN.out]; exact hqj)
          have htM : M.take (q + 1) = M.take q ++ [M.getD q 0] := take_succ (by rw [hI.my.len]; exact hqj)
          generalize L.getD q 0 = x at *
          generalize M.getD q 0 = y at *
          have sx : Int.tmod (x : Int) 64 = ((x % 64 : Nat) : Int) := rfl
          have sy : Int.tmod (y : Int) 64 = ((y % 64 : Nat) : Int) := rfl
          have tx : IntKind.u32.wrap ((x % 64 : Nat) : Int) = ((x % 64 : Nat) : Int) := u32_in (by omega) (by omega)
          have ty : IntKind.u32.wrap ((y % 64 : Nat) : Int) = ((y % 64 : Nat) : Int) := u32_in (by omega) (by omega)
          have ux : IntKind.u32.wrap (1 + ((x % 64 : Nat) : Int)) = ((Wd.mf x : Nat) : Int) := by rw [u32_in (by omega) (by omega)]; unfold Wd.mf; push_cast; rfl
          have uy : IntKind.u32.wrap (1 + ((y % 64 : Nat) : Int)) = ((Wd.mf y : Nat) : Int) := by rw [u32_in (by omega) (by omega)]; unfold Wd.mf; push_cast; rfl
          have M1 := Lib.hid (hI.win1.meet_c HT.out (n := Wd.mf x) (by unfold Wd.mf; omega))
          have HQ := Lib.hid hqj
          have HI := Lib.hid hI
          have HTT := Lib.hid (And.intro htL htM)
          clear hI hq hqj hx hy htL htM hc2
          generalize hmx : Wd.mf x = fx at *
          generalize hmy : Wd.mf y = fy at *
          have HMX := Lib.hid (And.intro hmx hmy)
          generalize x % 64 = xr at *
          generalize y % 64 = yr at *
          clear hmx hmy
          go_wp2_with fail
          refine M1.out.mono ?_
          rintro z w4 ⟨rfl, hI4, hk4⟩
          have hI2 := HI.out.win2.other hk4 (by omega) hI4.below
          have hmy4 := HI.out.my.still hk4 (fun g' e => by have := HI.out.lt g' e; omega) hI4.below
          obtain ⟨g', hg', hc4⟩ := hmy4.cell HQ.out
          cases hg'
          have hcq := (hc4 q HQ.out).1
          have hcq' : w4.cell? ⟨g, q, none⟩ = some (.int .u8 (y : Int)) := (hk4.cell cq (by have := HI.out.lt _ rfl; show ¬ g = V.heap.size; have h9 : g < V.heap.size := this; omega))
          have M2 := Lib.hid (hI2.meet_c HT.out (n := fy) (by have := HMX.out.2; unfold Wd.mf at this; omega))
          have HW1 := Lib.hid hI4
          have HMY := Lib.hid hmy4
          clear hcq hc4 hI2 hmy4 hI4 hk4 M1
          go_wp2_with fail
          refine M2.out.mono ?_
          rintro z w5 ⟨rfl, hI5, hk5⟩
          have HX : Hid (∃ (q' l1 e1 l2 e2 : Nat), q' ≤ j ∧ (Value.int .i64 ((q : Int) + 1)) = .int .i64 (q' : Int) ∧ OrI w V.heap.size j (some ⟨g, 0, none⟩) cap L M q' l1 e1 l2 e2 w5) := by
            refine ⟨q + 1, _, _, _, _, HQ.out, by push_cast; rfl, HW1.out.other hk5 (by omega) hI5.below, hI5, HMY.out.still hk5 (fun g' e => by have := HI.out.lt g' e; omega) hI5.below, HI.out.lt, ?_, ?_⟩
            · rw [HTT.out.1, ← HMX.out.1]; exact HI.out.met1.snoc x
            · rw [HTT.out.2, ← HMX.out.2]; exact HI.out.met2.snoc y
          clear hI5 hk5 M2
          go_wp2
          exact ⟨HX.out, by simp [intOf]; have := HQ.out; omega⟩
        · obtain rfl : q = j := by omega
          have hm1 := hI.met1
          have hm2 := hI.met2
          rw [List.take_of_length_le (by rw [← HN.out]; exact Nat.le_refl _)] at hm1
          rw [List.take_of_length_le (by rw [hI.my.len]; exact Nat.le_refl _)] at hm2
          obtain ⟨rfl, rfl⟩ := hm1.same hm2 HP.out
          have d1 : decide ((q : Int) < (q : Int)) = false := by simp
          have LA1 := Lib.hid (last_any hI.win1.win)
          have LA2 := Lib.hid (last_any hI.win2.win)
          have h1 := Lib.hid hI.win1
          have h2 := Lib.hid hI.win2
          clear hI hm1 hm2 hq hqj
          go_wp2_with fail
          refine LA1.out.mono ?_
          rintro z w5 ⟨rfl, hw5⟩
          rw [hw5]
          clear hw5
          go_wp2_with fail
          refine LA2.out.mono ?_
          rintro z w5 ⟨rfl, hw5⟩
          rw [hw5]
          clear hw5 LA1 LA2
          have C1 := Lib.hid (early_any h1.out.win h1.out.ok)
          go_wp2_with fail
          refine C1.out.mono ?_
          rintro z u1 ⟨va, rfl, ho1, hb1⟩
          have h1a := Lib.hid (h1.out.still hb1)
          have h2a := Lib.hid (h2.out.still hb1)
          have C2 := Lib.hid (early_any h2a.out.win h2a.out.ok)
          have R1 := Lib.hid (IsU.of_row ho1)
          clear ho1 hb1 C1 h1 h2
          go_wp2_with fail
          refine C2.out.mono ?_
          rintro z u2 ⟨vb, rfl, ho2, hb2⟩
          have h1b := Lib.hid (h1a.out.still hb2)
          have h2b := Lib.hid (h2a.out.still hb2)
          have hlen : ∀ a b, (Wd.early a b).length ≤ 100000 := fun a b => by unfold Wd.early; rw [List.length_map]; have := Wd.posE_length b; omega
          have C3 := Lib.hid (same_any (R1.out.kept (still_of hb2) (fun _ _ => id)) (IsU.of_row ho2) (hlen _ _))
          rw [decide_eq_true rfl] at C3
          clear ho2 hb2 C2 R1 h1a h2a hlen
          go_wp2_with fail
          refine C3.out.mono ?_
          rintro z u3 ⟨rfl, hk3⟩
          have hb3 : Below u2.heap.size u2 u3 := hk3.below (fun _ h => h.elim) (Nat.le_refl _)
          have h1c := Lib.hid (h1b.out.still hb3)
          have h2c := Lib.hid (h2b.out.still hb3)
          have C4 := Lib.hid (missing_any h1c.out.win h1c.out.ok)
          clear hb3 hk3 C3 h1b h2b
          go_wp2_with fail
          refine C4.out.mono ?_
          rintro z u4 ⟨vc, rfl, ho4, hb4⟩
          have h1d := Lib.hid (h1c.out.still hb4)
          have h2d := Lib.hid (h2c.out.still hb4)
          have C5 := Lib.hid (missing_any h2d.out.win h2d.out.ok)
          have R4 := Lib.hid (IsU.of_row ho4)
          clear ho4 hb4 C4 h1c h2c
          go_wp2_with fail
          refine C5.out.mono ?_
          rintro z u5 ⟨vd, rfl, ho5, hb5⟩
          have h1e := Lib.hid (h1d.out.still hb5)
          have hlen : ∀ a b, (Wd.miss a b).length ≤ 100000 := fun a b => by unfold Wd.miss; rw [List.length_map]; have := Wd.posM_length b; omega
          have C6 := Lib.hid (same_any (R4.out.kept (still_of hb5) (fun _ _ => id)) (IsU.of_row ho5) (hlen _ _))
          rw [decide_eq_true rfl] at C6
          clear ho5 hb5 C5 R4 h1d h2d hlen
          go_wp2_with fail
          refine C6.out.mono ?_
          rintro z u6 ⟨rfl, hk6⟩
          have hb6 : Below u5.heap.size u5 u6 := hk6.below (fun _ h => h.elim) (Nat.le_refl _)
          have HF := Lib.hid (h1e.out.still hb6).below
          clear hb6 hk6 C6
          go_wp2
          go_ret
          exact ⟨rfl, HF.out⟩
theorem orders_any {w : World} {A B : Option Addr} {L O : List Nat} {ca cb : Nat} (hT : Tab w) (hA : NumsAt .u8 w A L) (hL : ∀ x ∈ L, x ≤ 255) (hAn : A = none → L = [] ∧ ca = 0) (hB : NumsAt .u8 w B O) (hO : ∀ x ∈ O, x ≤ 255) :
    Calls Tryd.prog 6 #[.slice A L.length ca, .slice B O.length cb] w fun e w' => e = .returned (.bool true) ∧ Below w.heap.size w w' := by
  by_cases h : 64 < L.length ∨ 64 < O.length
  · exact orders_out hT h
  · exact orders_few hT hA hAn hL hB hO (by omega) (by omega)
end Go.Proofs.YtcbgadjnheagmaaDoor
