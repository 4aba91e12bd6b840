/-
  ClaimHomes: the claims of all homes are together all.
-/
import Derived.Test.YtijhkjegpcmjoaaClf
import Derived.Test.YtijhkjegpcmjoaaCl6
namespace Go.Proofs.Ytijhkjegpcmjoaa
set_option maxRecDepth 100000
set_option linter.unusedSimpArgs false
open Go Go.RowKit Cl

namespace Cl
theorem idx_mem {l : List Cm} (hr : Ris l) {x : Cm} (hx : x ∈ l) : has l x.c = true ∧ at_ l x.c = x := by
  obtain ⟨j, hj, rfl⟩ := List.getElem_of_mem hx
  have e : idx l (l[j]).c = j := idx_eq (by omega) (fun k hk => by have := ris_lt hr hk hj; rwa [getD_eq hj] at this) (fun k hk hkl => by
    rcases Nat.lt_or_ge j k with h | h
    · have := ris_lt hr h hkl
      rw [getD_eq hj] at this; omega
    · obtain rfl : k = j := by omega
      rw [getD_eq hj]; exact Int.le_refl _)
  have ha : at_ l (l[j]).c = l[j] := by unfold at_; rw [e, getD_eq hj]
  refine ⟨?_, ha⟩
  unfold has
  rw [ha, e, decide_eq_true hj, decide_eq_true rfl]; rfl
/-- How many claims are of the homes below h. -/
def cnt (l : List Cm) (h n : Int) : Nat := (l.filter (fun x => decide (x.c % n < h))).length
theorem cnt_zero (l : List Cm) {n : Int} (hn : 0 < n) : cnt l 0 n = 0 := by
  unfold cnt
  rw [List.length_eq_zero_iff, List.filter_eq_nil_iff]
  intro x _
  have := Int.emod_nonneg x.c (Int.ne_of_gt hn)
  simp
  omega
theorem cnt_all (l : List Cm) {n : Int} (hn : 0 < n) : cnt l n n = l.length := by
  unfold cnt
  rw [List.filter_eq_self.2]
  intro x _
  have := Int.emod_lt_of_pos x.c hn
  simpa using this
theorem cnt_succ (l : List Cm) (h n : Int) : cnt l (h + 1) n = cnt l h n + (ofL l h n).length := by
  unfold cnt ofL hmF
  induction l with
  | nil => rfl
  | cons x l ih =>
    rcases Int.lt_trichotomy (x.c % n) h with e | e | e
    · have d1 : decide (x.c % n < h + 1) = true := decide_eq_true (by omega)
      have d2 : decide (x.c % n < h) = true := decide_eq_true e
      have d3 : decide (x.c % n = h) = false := decide_eq_false (by omega)
      simp only [List.filter_cons, d1, d2, d3, if_true, Bool.false_eq_true, if_false, List.length_cons]
      omega
    · have d1 : decide (x.c % n < h + 1) = true := decide_eq_true (by omega)
      have d2 : decide (x.c % n < h) = false := decide_eq_false (by omega)
      have d3 : decide (x.c % n = h) = true := decide_eq_true e
      simp only [List.filter_cons, d1, d2, d3, if_true, Bool.false_eq_true, if_false, List.length_cons]
      omega
    · have d1 : decide (x.c % n < h + 1) = false := decide_eq_false (by omega)
      have d2 : decide (x.c % n < h) = false := decide_eq_false (by omega)
      have d3 : decide (x.c % n = h) = false := decide_eq_false (by omega)
      simp only [List.filter_cons, d1, d2, d3, Bool.false_eq_true, if_false]
      omega
theorem of_mem {l : List Cm} (hr : Ris l) {h n : Int} {x : Cm} (hx : x ∈ ofL l h n) : has l x.c = true ∧ genG l x.c = x.g ∧ x.c % n = h ∧ x ∈ l := by
  have hm := List.mem_filter.1 hx
  obtain ⟨h1, h2⟩ := idx_mem hr hm.1
  refine ⟨h1, by unfold genG; rw [if_pos h1, h2], by simpa [hmF] using hm.2, hm.1⟩
end Cl
set_option maxHeartbeats 4000000 in
theorem homes_any {w : World} {A : Option Addr} {l : List Kop} {cap : Nat} {m : Nat} {x : Kop} (hA : OpsAt w A l) (hm : ∀ k, k < l.length → OpIn (l.getD k default)) (hm8 : m ≤ 255) (hx : OpIn x) :
    Calls Try.prog 7 #[.slice A l.length cap, .int .u8 (m : Nat), .agg #[.int .i64 x.k, .int .i64 x.c, .int .u32 x.g, .int .i64 x.r]] w fun e w' => e = .returned (.bool true) ∧ Below w.heap.size w w' := by
  obtain ⟨xk, xc, xg, xr⟩ := x
  obtain ⟨hxg, _⟩ := hx
  simp only at hxg ⊢
  obtain ⟨wx, hwx⟩ : ∃ wx, w.alloc (.cells #[.int .i64 xk, .int .i64 xc, .int .u32 xg, .int .i64 xr] 36) = wx := ⟨_, rfl⟩
  have hbx : wx.heap[w.heap.size]? = some (.cells #[.int .i64 xk, .int .i64 xc, .int .u32 xg, .int .i64 xr] 36 (0, 0)) := by rw [← hwx]; exact World.alloc_heap_new w _
  have hb0 : Below w.heap.size w wx := by rw [← hwx]; exact alloc_below w _
  have HBx := Lib.hid hbx
  have HB0 := Lib.hid hb0
  obtain ⟨R, hR⟩ : ∃ R : Ending → World → Prop, R = fun e w' => e = .returned (.bool true) ∧ Below w.heap.size w w' := ⟨_, rfl⟩
  have HR : Hid (∀ w', Below wx.heap.size wx w' → R (.returned (.bool true)) w') := by rw [hR]; exact fun w' h => ⟨rfl, hb0.trans (h.mono hb0.size)⟩
  rw [← hR]
  clear hR
  have HAl := Lib.hid (alive_any wx)
  have HA := Lib.hid (hA.below hb0)
  have HM := Lib.hid hm
  clear hA hm hbx hb0
  obtain ⟨N, hN⟩ : ∃ N, N = l.length := ⟨_, rfl⟩
  have HN := Lib.hid hN
  rw [← hN] at HM ⊢
  clear hN
  by_cases hl : 100 < N
  · have d1 : decide ((100 : Int) < (N : Int)) = true := by simp; omega
    go_enter Try.func7, Try.ntmps7
    go_wp2_with fail
    refine HAl.out.mono ?_
    rintro e W0 ⟨rfl, b0⟩
    have HB := Lib.hid (HR.out _ b0)
    clear b0
    go_wp2
    first | exact HB.out | (go_ret; exact HB.out)
  · have d1 : decide ((100 : Int) < (N : Int)) = false := by simp; omega
    have hN100 : N ≤ 100 := by omega
    clear hl
    go_enter Try.func7, Try.ntmps7
    go_wp2_with fail
    refine HAl.out.mono ?_
    rintro e W0 ⟨rfl, b0⟩
    obtain ⟨b, hb⟩ : ∃ b, b = W0.heap.size := ⟨_, rfl⟩
    obtain ⟨W1, hW1⟩ : ∃ W1, W0.alloc (.cells z33 29) = W1 := ⟨_, rfl⟩
    have h0 : CL wx b (fun _ => True) W1 := by
      rw [← hW1, hb]
      exact ⟨[], z33_new W0, b0.size, b0.trans ((alloc_below W0 _).mono b0.size), trivial⟩
    have H0 := Lib.hid h0
    clear h0 HAl b0 hwx
    unfold z33 at hW1
    go_wp2_with fail
    clear hW1
    rw [← hb]
    clear hb
    go_loopw [33] (fun u wr => ∃ j : Nat, j ≤ N ∧ u = .int .i64 (j : Int) ∧ CL wx b (fun _ => True) wr) (fun u _ => N - (intOf u).toNat)
    case atStart => exact ⟨0, Nat.zero_le _, rfl, H0.out⟩
    case round =>
      rename World => wr
      obtain ⟨j, hj, rfl, hC⟩ := hrel
      by_cases hlt : j < N
      · have d2 : decide ((j : Int) < (N : Int)) = true := by simp; omega
        have hop := HM.out j hlt
        obtain ⟨s, h1, h2, h3, _⟩ := hC
        obtain ⟨a, rfl, z0, z1, z2, _⟩ := (HA.out.below h3) j (by rw [← HN.out]; exact hlt)
        have HC : Hid (∀ V, Below wx.heap.size wx V → V.cell? ⟨(a.add (j * 4)).block, (a.add (j * 4)).off + 1, none⟩ = some (.int .i64 (l.getD j default).c) ∧ V.cell? ⟨(a.add (j * 4)).block, (a.add (j * 4)).off + 2, none⟩ = some (.int .u32 (l.getD j default).g)) := by
          intro V hV
          obtain ⟨a', e, q0, q1, q2, _⟩ := (HA.out.below hV) j (by rw [← HN.out]; exact hlt)
          cases e
          exact ⟨q1, q2⟩
        generalize l.getD j default = y at *
        obtain ⟨yk, yc, yg, yr⟩ := y
        obtain ⟨hg, _⟩ := hop
        simp only at hg HC z0 z1 z2
        have j0 : (0 : Int) ≤ (j : Int) := by omega
        have j1 : (j : Int) < (N : Int) := by omega
        by_cases hk : yk = 1
        · subst hk
          have HD : Hid (Calls Try.prog 11 #[.pointer (some ⟨b, 0, none⟩), .int .i64 yc] wr fun e w' => (∃ v, e = .returned v) ∧ CL wx b (fun _ => True) w') := by
            refine (drop_any h1 yc).mono ?_
            rintro e w' ⟨rfl, q1, q2⟩
            exact ⟨⟨_, rfl⟩, CL.kept h2 h3 q2 q1 trivial⟩
          clear h1 h3 HC
          go_wp2_with fail
          refine HD.out.mono ?_
          rintro e w4 ⟨⟨v, rfl⟩, hc⟩
          have HF := Lib.hid hc
          clear hc HD z0 z1 z2
          go_wp2
          go_roundw
          case rel => exact ⟨j + 1, by omega, by push_cast; rfl, HF.out⟩
          case measure => simp [intOf]; omega
        · have hk' : (yk == 1) = false := by simpa using hk
          have HTT : Hid (Calls Try.prog 9 #[.pointer (some ⟨b, 0, none⟩), .int .i64 yc, .int .u32 yg] wr.drew fun e w' => (∃ v, e = .returned v) ∧ CL wx b (fun _ => True) w' ∧ w'.cell? ⟨(a.add (j * 4)).block, (a.add (j * 4)).off + 1, none⟩ = some (.int .i64 yc) ∧ w'.cell? ⟨(a.add (j * 4)).block, (a.add (j * 4)).off + 2, none⟩ = some (.int .u32 yg)) := by
            refine (take_any (x := ⟨yc, yg⟩) (w := wr.drew) (h1.below (Below.refl _ _).drew) hg).mono ?_
            rintro e w' ⟨rfl, q1, q2⟩
            have q3 : CL wx b (fun _ => True) w' := CL.kept h2 h3.drew q2 q1 trivial
            have q3' := q3
            obtain ⟨_, _, _, hBw, _⟩ := q3'
            obtain ⟨q4, q5⟩ := HC.out w' hBw
            exact ⟨⟨_, rfl⟩, q3, q4, q5⟩
          have zz : wr.drew.cell? ⟨(a.add (j * 4)).block, (a.add (j * 4)).off + 1, none⟩ = some (.int .i64 yc) ∧ wr.drew.cell? ⟨(a.add (j * 4)).block, (a.add (j * 4)).off + 2, none⟩ = some (.int .u32 yg) := ⟨z1, z2⟩
          clear h1 h3 HC z1 z2
          go_wp2_with fail
          go_region_held3 (fun W' => W'.cell? ⟨(a.add (j * 4)).block, (a.add (j * 4)).off + 1, none⟩ = some (.int .i64 yc) ∧ W'.cell? ⟨(a.add (j * 4)).block, (a.add (j * 4)).off + 2, none⟩ = some (.int .u32 yg)) (first | exact zz | exact ⟨h6, h7⟩) (first | (go_at_call 9; (with_reducible refine HTT.out.mono ?_); rintro e w9 ⟨⟨v9, rfl⟩, h5, h6, h7⟩))
          have HF := Lib.hid h5
          clear h5 h6 h7 HTT zz z0
          go_wp2
          go_roundw
          case rel => exact ⟨j + 1, by omega, by push_cast; rfl, HF.out⟩
          case measure => simp [intOf]; omega
      · obtain rfl : N = j := by omega
        have d2 : decide ((N : Int) < (N : Int)) = false := by simp
        obtain ⟨s, h1, h2, h3, _⟩ := hC
        have HA1 := Lib.hid (all_any (.inr ⟨b, rfl, h1⟩))
        have H1 := Lib.hid h1
        have H3 := Lib.hid h3
        have hok := h1.1
        have hbs := h1.lt
        clear h1 h3 H0 HA HM HN
        go_wp2_with fail
        refine HA1.out.mono ?_
        rintro e W2 ⟨v2, rfl, hr2, hb2⟩
        have hI2 := IsM.of_row hr2
        have hne2 : ∀ k, v2.ownBlock = some k → wr.heap.size ≤ k := fun k hk => (hr2.lt k hk).1
        obtain ⟨A2, cap2, rfl⟩ := row_isM hr2
        have h1 := H1.out.below hb2
        have h3 := H3.out.trans (hb2.mono H3.out.size)
        have HI := Lib.hid hI2
        have HNe := Lib.hid hne2
        have H1' := Lib.hid h1
        have H3' := Lib.hid h3
        have hb2s := h1.lt
        obtain ⟨n, hn⟩ : ∃ n : Nat, n = 1 + m % 64 := ⟨_, rfl⟩
        have ewm : IntKind.i64.wrap (m : Int) = (m : Int) := IntWalk.i64_in _ (by omega)
        have m0 : (0 : Int) ≤ (m : Int) := by omega
        have ewn : IntKind.i64.wrap (1 + (m : Int) % 64) = (n : Int) := by rw [IntWalk.i64_in _ (by omega)]; omega
        clear hr2 hb2 h1 h3 hI2 hne2 HA1 H1 H3
        go_wp2_with fail
        have en : (1 + (m : Int) % 64) = (n : Int) := by omega
        have hn1 : 1 ≤ n ∧ n ≤ 64 := by omega
        rw [en]
        have hm1 : m % 64 < 64 := Nat.mod_lt _ (by omega)
        clear en ewm ewn hn m0 hm1
        have HCnt0 := Lib.hid (cnt_zero s (n := (n : Int)) (by omega))
        have HCntN := Lib.hid (cnt_all s (n := (n : Int)) (by omega))
        have HCntS := Lib.hid (cnt_succ s)
        have HCntLe : Hid (∀ h : Int, cnt s h n ≤ 16) := fun h => Nat.le_trans (List.length_filter_le _ _) hok.len
        have HOf : Hid (∀ V (h : Nat), Below W2.heap.size W2 V → Calls Try.prog 13 #[.pointer (some ⟨b, 0, none⟩), .int .i64 (h : Int), .int .i64 (n : Int)] V (CmP V (ofL s h n))) := by
          intro V h hV
          have := home_any (.inr ⟨b, rfl, H1'.out.below hV⟩) (h := (h : Int)) (r := (n : Int)) (by omega)
          unfold ofZ at this
          rw [if_neg (by omega)] at this
          exact this
        have HGn : Hid (∀ V c, Below W2.heap.size W2 V → Calls Try.prog 17 #[.pointer (some ⟨b, 0, none⟩), .int .i64 c] V fun e w' => e = .returned (.tuple #[.int .u32 (genG s c), .bool (has s c)]) ∧ Below V.heap.size V w') := fun V c hV => gen_any (.inr ⟨b, rfl, H1'.out.below hV⟩) c
        have HMem : Hid (∀ (h : Int) k, k < (ofL s h n).length → has s ((ofL s h n).getD k c0).c = true ∧ genG s ((ofL s h n).getD k c0).c = ((ofL s h n).getD k c0).g ∧ ((ofL s h n).getD k c0).c % n = h ∧ 0 ≤ ((ofL s h n).getD k c0).c) := by
          intro h k hk
          obtain ⟨q1, q2, q3, q4⟩ := of_mem hok.ris (getD_mem hk)
          exact ⟨q1, q2, q3, (hok.cel _ q4).1⟩
        have HB2 := Lib.hid (Below.refl W2.heap.size W2)
        go_loopw [13, 11] (fun u v wr => ∃ h : Nat, h ≤ n ∧ u = .int .i64 (h : Int) ∧ v = .int .i64 ((cnt s h n : Nat) : Int) ∧ Below W2.heap.size W2 wr) (fun u _ _ => n - (intOf u).toNat)
        case atStart => exact ⟨0, Nat.zero_le _, rfl, by rw [show ((0 : Nat) : Int) = 0 from rfl, HCnt0.out]; rfl, HB2.out⟩
        case round =>
          rename World => V
          obtain ⟨h, hh, rfl, rfl, hB⟩ := hrel
          by_cases hlt : h < n
          · have d3 : decide ((h : Int) < (n : Int)) = true := by simp; omega
            have HCo := Lib.hid (HOf.out V h hB)
            have HBV := Lib.hid hB
            have hcnt := HCntLe.out h
            have hcntS := HCntS.out h n
            have HCS := Lib.hid hcntS
            have hc2 := HCntLe.out (h + 1)
            obtain ⟨L2, hL2⟩ : ∃ L2, L2 = (ofL s h n).length := ⟨_, rfl⟩
            have hL16 : cnt s h n + L2 ≤ 16 := by omega
            have HM2 := Lib.hid (HMem.out h)
            clear hB hcntS hc2
            go_wp2_with fail
            refine HCo.out.mono ?_
            rintro e W4 ⟨v4, rfl, hr4, hb4⟩
            have hI4 := IsM.of_row hr4
            obtain ⟨A4, cap4, rfl⟩ := row_isM hr4
            have hB4 := HBV.out.trans (hb4.mono HBV.out.size)
            have HI4 : Hid (∀ V2, Below W4.heap.size W4 V2 → ∀ k, k < L2 → ∃ g, A4 = some ⟨g, 0, none⟩ ∧ V2.cell? ⟨g, k * 2, none⟩ = some (.int .i64 ((ofL s h n).getD k c0).c) ∧ V2.cell? ⟨g, k * 2 + 1, none⟩ = some (.int .u32 ((ofL s h n).getD k c0).g)) := by
              intro V2 hV2 k hk
              obtain ⟨a9, c9, e9, h9⟩ := hI4.still (still_of hV2)
              cases e9
              exact h9 k (by rw [← hL2]; exact hk)
            rw [← hL2] at HM2 HCS ⊢
            have HB4 := Lib.hid hB4
            have HB40 := Lib.hid (Below.refl W4.heap.size W4)
            clear hr4 hb4 hI4 hB4 HCo hL2
            generalize cnt s h n = ct at *
            go_wp2_with fail
            go_loopw [78, 11] (fun u v wr => ∃ k : Nat, k ≤ L2 ∧ u = .int .i64 (k : Int) ∧ v = .int .i64 ((ct + k : Nat) : Int) ∧ Below W4.heap.size W4 wr) (fun u _ _ => L2 - (intOf u).toNat)
            case atStart => exact ⟨0, Nat.zero_le _, rfl, rfl, HB40.out⟩
            case round =>
              rename World => V5
              obtain ⟨k, hk, rfl, rfl, hB5⟩ := hrel
              by_cases hkl : k < L2
              · have d4 : decide ((k : Int) < (L2 : Int)) = true := by simp; omega
                obtain ⟨g4, rfl, e0, e1⟩ := HI4.out V5 hB5 k hkl
                obtain ⟨m1, m2, m3, m4⟩ := HM2.out k hkl
                generalize (ofL s h n).getD k c0 = y at *
                obtain ⟨yc, yg⟩ := y
                simp only at e0 e1 m1 m2 m3 m4
                obtain ⟨o, ho⟩ : ∃ o : Obj, o = .cells #[.int .i64 yc, .int .u32 yg] 26 := ⟨_, rfl⟩
                have jb := World.alloc_heap_new V5 o
                have hBa : Below W4.heap.size W4 (V5.alloc o) := hB5.trans ((alloc_below V5 o).mono hB5.size)
                have HG1 : Hid (Calls Try.prog 17 #[.pointer (some ⟨b, 0, none⟩), .int .i64 yc] (V5.alloc o) fun e w' => e = .returned (.tuple #[.int .u32 yg, .bool true]) ∧ Below W4.heap.size W4 w' ∧ w'.cell? ⟨V5.heap.size, 0, none⟩ = some (.int .i64 yc) ∧ w'.cell? ⟨V5.heap.size, 1, none⟩ = some (.int .u32 yg)) := by
                  refine (HGn.out (V5.alloc o) yc (HB4.out.trans (hBa.mono HB4.out.size))).mono ?_
                  rintro e w' ⟨rfl, hb⟩
                  rw [m1, m2]
                  have jc := (hb.block _ (blk_lt jb)).trans jb
                  rw [ho] at jc
                  exact ⟨rfl, hBa.trans (hb.mono hBa.size), by rw [blk_cell jc]; rfl, by rw [blk_cell jc]; rfl⟩
                have k0 : (0 : Int) ≤ (k : Int) := by omega
                have k1 : (k : Int) < (L2 : Int) := by omega
                have f0 : (V5.alloc o).cell? ⟨V5.heap.size, 0, none⟩ = some (.int .i64 yc) := by rw [ho] at jb ⊢; rw [blk_cell jb]; rfl
                have dh : (yc % (n : Int) != (h : Int)) = false := by simp [m3]
                have n0 : ¬ (n : Int) = 0 := by omega
                have n1 : ((n : Int) == 0) = false := by simp; omega
                have n2 : (0 : Int) ≤ (n : Int) := by omega
                have ew5 : IntKind.i64.wrap (((ct + k : Nat) : Int) + 1) = ((ct + (k + 1) : Nat) : Int) := by rw [IntWalk.i64_in _ (by omega)]; omega
                have ew6 : IntKind.i64.wrap ((ct : Int) + (k : Int) + 1) = ((ct + (k + 1) : Nat) : Int) := by rw [IntWalk.i64_in _ (by omega)]; omega
                subst ho
                clear jb hBa m1 m2 hB5
                go_wp2_with fail
                refine HG1.out.mono ?_
                rintro e W6 ⟨rfl, hb6, z0, z1⟩
                have HB6 := Lib.hid hb6
                clear hb6 HG1 m3
                go_wp2
                go_roundw
                case rel => exact ⟨k + 1, by omega, by push_cast; rfl, by first | rfl | (push_cast; rfl), HB6.out⟩
                case measure => simp [intOf]; omega
              · obtain rfl : k = L2 := by omega
                have d4 : decide ((k : Int) < (k : Int)) = false := by simp
                have HB6 := Lib.hid (HB4.out.trans (hB5.mono HB4.out.size))
                have hh1 : IntKind.i64.wrap ((h : Int) + 1) = (h : Int) + 1 := IntWalk.i64_in _ (by omega)
                clear hB5
                go_wp2
                go_roundw
                case rel => exact ⟨h + 1, by omega, by push_cast; rfl, by rw [show ((h + 1 : Nat) : Int) = (h : Int) + 1 by push_cast; rfl, HCS.out], HB6.out⟩
                case measure => simp [intOf]; omega
          · obtain rfl : h = n := by omega
            have d3 : decide ((h : Int) < (h : Int)) = false := by simp
            rw [HCntN.out]
            have hBV := H3'.out.trans (hB.mono H3'.out.size)
            have hcV := H1'.out.below hB
            have hIV := HI.out.still (still_of hB)
            have hbw : w.heap.size < wx.heap.size := blk_lt HBx.out
            have hxc : ∀ V' : World, (∀ k, k < wx.heap.size → V'.heap[k]? = wx.heap[k]?) → V'.cell? ⟨w.heap.size, 1, none⟩ = some (.int .i64 xc) ∧ V'.cell? ⟨w.heap.size, 2, none⟩ = some (.int .u32 xg) := by
              intro V' hV'
              have := (hV' _ hbw).trans HBx.out
              exact ⟨by rw [blk_cell this]; rfl, by rw [blk_cell this]; rfl⟩
            have HTail : Hid (∀ V', CAt V' b s → IsM V' (.slice A2 s.length cap2) s → Below wx.heap.size wx V' → Calls Try.prog 19 #[.pointer (some ⟨b, 0, none⟩)] V' fun e w' => ∃ A7 cap7, e = .returned (.slice A7 s.length cap7) ∧ Calls Try.prog 15 #[.slice A7 s.length cap7, .slice A2 s.length cap2] w' fun e w'' => e = .returned (.bool true) ∧ Below wx.heap.size wx w'') := by
              intro V' q1 q2 q3
              refine (all_any (.inr ⟨b, rfl, q1⟩)).mono ?_
              rintro e w' ⟨v7, rfl, hr7, hb7⟩
              have hI7 := IsM.of_row hr7
              obtain ⟨A7, cap7, rfl⟩ := row_isM hr7
              refine ⟨A7, cap7, rfl, (rsame_any hI7 (q2.still (still_of hb7)) (by have := hok.len; omega)).mono ?_⟩
              rintro e w'' ⟨rfl, q, rfl⟩
              exact ⟨by simp, bel_drewN (q3.trans (hb7.mono q3.size)) q⟩
            have hbB : ∀ k, (Value.slice A2 s.length cap2).ownBlock = some k → ¬ k = b := fun k hk e => by have := HNe.out k hk; omega
            have hbx0 : wx.heap.size ≤ b := h2
            have hKX : ∀ V1 V2, Below wx.heap.size wx V1 → Kept (fun k => k = b) V1 V2 → Below wx.heap.size wx V2 := fun V1 V2 q1 q2 => q1.trans (q2.below (fun k e => by omega) q1.size)
            have HTk : Hid (Calls Try.prog 9 #[.pointer (some ⟨b, 0, none⟩), .int .i64 xc, .int .u32 xg] V fun e w' => e = .returned (.int .i64 (takeE s xc)) ∧ CAt w' b (takeL s ⟨xc, xg⟩) ∧ IsM w' (.slice A2 s.length cap2) s ∧ Below wx.heap.size wx w') := by
              refine (take_any (x := ⟨xc, xg⟩) hcV hxg).mono ?_
              rintro e w' ⟨rfl, q1, q2⟩
              exact ⟨rfl, q1, hIV.kept q2 hbB, hKX _ _ hBV q2⟩
            obtain ⟨z1, z2⟩ := hxc V (fun k hk => hBV.block k hk)
            have HXc := Lib.hid hxc
            have HKX := Lib.hid hKX
            have HbB := Lib.hid hbB
            clear hcV hIV hBV hB hxc hKX hbB HCnt0 HCntN HCntS HCntLe HOf HGn HMem H1' H3' HI HNe HBx
            by_cases he : takeE s xc = 0
            · have hins : takeL s ⟨xc, xg⟩ = ins s ⟨xc, xg⟩ := by unfold takeL; rw [if_pos he]
              obtain ⟨t1, t2, t3⟩ := takeE_zero.1 he
              obtain ⟨i1, i2, i3⟩ := drop_ins hok.ris (x := ⟨xc, xg⟩) (not_has hok.ris t2)
              rw [he, hins] at HTk
              have HDr : Hid (∀ V', CAt V' b (ins s ⟨xc, xg⟩) → IsM V' (.slice A2 s.length cap2) s → Below wx.heap.size wx V' → Calls Try.prog 11 #[.pointer (some ⟨b, 0, none⟩), .int .i64 xc] V' fun e w' => e = .returned (.tuple #[.int .u32 xg, .bool true]) ∧ CAt w' b s ∧ IsM w' (.slice A2 s.length cap2) s ∧ Below wx.heap.size wx w') := by
                intro V' q1 q2 q3
                refine (drop_any q1 xc).mono ?_
                rintro e w' ⟨rfl, q4, q5⟩
                refine ⟨?_, by rw [← i3]; exact q4, q2.kept q5 HbB.out, HKX.out _ _ q3 q5⟩
                unfold genG
                rw [if_pos i1, i1, i2]
              clear hins t1 t2 t3 i1 i2 i3 he
              go_wp2_with fail
              refine HTk.out.mono ?_
              rintro e V6 ⟨rfl, q1, q2, q3⟩
              have HD := Lib.hid (HDr.out _ q1 q2 q3)
              obtain ⟨y1, y2⟩ := HXc.out V6 (fun k hk => q3.block k hk)
              clear q1 q2 q3 HTk HDr z1 z2
              go_wp2_with fail
              refine HD.out.mono ?_
              rintro e V7 ⟨rfl, q1, q2, q3⟩
              have HT7 := Lib.hid (HTail.out _ q1 q2 q3)
              obtain ⟨x1, x2⟩ := HXc.out V7 (fun k hk => q3.block k hk)
              clear q1 q2 q3 HD HTail y1 y2
              go_wp2_with fail
              refine HT7.out.mono ?_
              rintro e V8 ⟨A7, cap7, rfl, hS⟩
              have HS := Lib.hid hS
              clear hS HT7 x1 x2
              go_wp2_with fail
              refine HS.out.mono ?_
              rintro e V9 ⟨rfl, hb9⟩
              have HF := Lib.hid (HR.out _ hb9)
              clear hb9 HS
              go_wp2
              first | exact HF.out | (go_ret; exact HF.out)
            · have hno : takeL s ⟨xc, xg⟩ = s := by unfold takeL; rw [if_neg he]
              have he' : (takeE s xc == 0) = false := by simpa using he
              rw [hno] at HTk
              clear hno he
              generalize takeE s xc = te at *
              go_wp2_with fail
              refine HTk.out.mono ?_
              rintro e V7 ⟨rfl, q1, q2, q3⟩
              have HT7 := Lib.hid (HTail.out _ q1 q2 q3)
              clear q1 q2 q3 HTk HTail z1 z2
              go_wp2_with fail
              refine HT7.out.mono ?_
              rintro e V8 ⟨A7, cap7, rfl, hS⟩
              have HS := Lib.hid hS
              clear hS HT7
              go_wp2_with fail
              refine HS.out.mono ?_
              rintro e V9 ⟨rfl, hb9⟩
              have HF := Lib.hid (HR.out _ hb9)
              clear hb9 HS
              go_wp2
              first | exact HF.out | (go_ret; exact HF.out)
end Go.Proofs.Ytijhkjegpcmjoaa
