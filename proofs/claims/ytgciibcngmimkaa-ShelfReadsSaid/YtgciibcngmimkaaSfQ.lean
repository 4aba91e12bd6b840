/-
  ShelfBack.
-/
import Derived.Test.YtgciibcngmimkaaSfJ
import Derived.Test.YtgciibcngmimkaaTk
namespace Go.Proofs.Ytgciibcngmimkaa
set_option maxRecDepth 100000
set_option linter.unusedSimpArgs false
open Go Go.RowKit Sf

/-- A shelf that is written on, and two that are not. -/
def Trio (F : Nat) (w : World) (s bt : Nat) (mt : Option Nat) (Nt : Nat) (bc mc Nc : Nat) (M M1 : List Ent) : Prop :=
  ∃ mo N, ShAt w s mo N M ∧ (∀ k, OfS s mo k → F ≤ k ∧ ¬ (OfS bt mt k ∨ OfS bc (some mc) k)) ∧ ShAt w bt mt Nt M1 ∧ ShAt w bc (some mc) Nc M1
theorem Trio.below {F : Nat} {w w' : World} {s bt : Nat} {mt : Option Nat} {Nt bc mc Nc : Nat} {M M1 : List Ent} (h : Trio F w s bt mt Nt bc mc Nc M M1) (hb : Below w.heap.size w w') : Trio F w' s bt mt Nt bc mc Nc M M1 := by
  obtain ⟨mo, N, h1, h2, h3, h4⟩ := h
  exact ⟨mo, N, h1.below hb, h2, h3.below hb, h4.below hb⟩
theorem Trio.write {F : Nat} {w : World} {s bt : Nat} {mt : Option Nat} {Nt bc mc Nc : Nat} {M M1 : List Ent} {r : Rec} {A : Option Addr} {cap : Nat} (h : Trio F w s bt mt Nt bc mc Nc M M1) (hr : RecOk w r A cap) (hF : F ≤ w.heap.size) :
    Calls Try.prog 11 #[.pointer (some ⟨s, 0, none⟩), recA r.k r.n A r.d.length cap] w fun e w' => ∃ z, e = .returned (.int .i64 z) ∧ Trio F w' s bt mt Nt bc mc Nc (wrM M r) M1 ∧ Below F w w' := by
  obtain ⟨mo, N, h1, h2, h3, h4⟩ := h
  refine (write_all h1 hr).mono ?_
  rintro e w' ⟨rfl, mo', N', g1, g2, g3⟩
  refine ⟨_, rfl, ⟨mo', N', g1, fun k hk => ?_, h3.kept g2 (fun k hk hX => (h2 k hX).2 (.inl hk)) h1.no8, h4.kept g2 (fun k hk hX => (h2 k hX).2 (.inr hk)) h1.no8⟩, g2.below (fun k hk => (h2 k hk).1) hF⟩
  rcases hk with rfl | hk
  · exact h2 _ (.inl rfl)
  · rcases g3 k hk with g | g
    · exact h2 k (.inr g)
    · refine ⟨by omega, fun hT => ?_⟩
      rcases hT with hT | hT
      · have := h3.mlt hT; omega
      · have := h4.mlt hT; omega
theorem bhM_take {l : List Rc} {j : Nat} (hj : j < l.length) (M : List Ent) : bhM M ((l.map (·.r)).take (j + 1)) = wrM (bhM M ((l.map (·.r)).take j)) (l.getD j default).r := by
  have e : (l.map (·.r)).take (j + 1) = (l.map (·.r)).take j ++ [(l.getD j default).r] := by
    rw [List.take_add_one]
    congr 1
    rw [List.getElem?_map, List.getElem?_eq_getElem hj]
    simp [List.getD, hj]
  rw [e, bhM_append]
  rfl
set_option maxHeartbeats 8000000 in
theorem back_any {w : World} {A A2 A3 : Option Addr} {l l2 : List Rc} {b : List Nat} {cap cap2 cap3 : Nat} (h : RsAt w A l) (hmx : l.length ≤ 1000000000000000) (h2 : RsAt w A2 l2) (hmx2 : l2.length ≤ 1000000000000000) (hb : BsOk w A3 b cap3) (hbm : b.length ≤ maxLen) :
    Calls Try.prog 7 #[.slice A l.length cap, .slice A2 l2.length cap2, .slice A3 b.length cap3] w fun e w' => e = .returned (.bool true) ∧ Below w.heap.size w w' := by
  obtain ⟨F, hF⟩ : ∃ F, F = w.heap.size := ⟨_, rfl⟩
  obtain ⟨wB, hwB⟩ : ∃ wB : World → Prop, wB = Below w.heap.size w := ⟨_, rfl⟩
  have HD : Hid (∀ V W : World, wB V → Below V.heap.size V W → wB W) := Lib.hid (fun V W h1 h2 => by rw [hwB] at *; exact h1.trans (h2.mono h1.size))
  have HG : Hid (∀ V W : World, wB V → Below F V W → wB W) := Lib.hid (fun V W h1 h2 => by rw [hwB] at *; rw [hF] at h2; exact h1.trans h2)
  have HZ : Hid (∀ V : World, wB V → F ≤ V.heap.size) := Lib.hid (fun V h1 => by rw [hwB] at h1; rw [hF]; exact h1.size)
  have HR1 : Hid (∀ V : World, wB V → RsAt V A l) := Lib.hid (fun V h1 => by rw [hwB] at h1; exact h.below h1)
  have HR2 : Hid (∀ V : World, wB V → RsAt V A2 l2) := Lib.hid (fun V h1 => by rw [hwB] at h1; exact h2.below h1)
  have HBs : Hid (∀ V : World, wB V → BsOk V A3 b cap3) := Lib.hid (fun V h1 => by rw [hwB] at h1; exact hb.below h1)
  have HB0 : Hid (wB w) := Lib.hid (by rw [hwB]; exact Below.refl _ w)
  rw [← hwB]
  clear hwB hF
  obtain ⟨L, hL⟩ : ∃ L, L = l.length := ⟨_, rfl⟩
  obtain ⟨L2, hL2⟩ : ∃ L, L = l2.length := ⟨_, rfl⟩
  obtain ⟨Lb, hLb⟩ : ∃ L, L = b.length := ⟨_, rfl⟩
  have hLm : L ≤ 1000000000000000 := by rw [hL]; exact hmx
  have hLm2 : L2 ≤ 1000000000000000 := by rw [hL2]; exact hmx2
  have hmm : maxLen < 9223372036854775808 := by decide
  have hLbm : Lb < 9223372036854775808 := by omega
  have HL := Lib.hid hL
  have HL2 := Lib.hid hL2
  have HLb := Lib.hid hLb
  have HG1 := Lib.hid (fun (V : World) (hV : wB V) => great_any (w := V) cap (HR1.out V hV) hmx)
  have HG2 := Lib.hid (fun (V : World) (hV : wB V) => great_any (w := V) cap2 (HR2.out V hV) hmx2)
  rw [← hL] at HG1 ⊢
  rw [← hL2] at HG2 ⊢
  rw [← hLb]
  clear hL hL2 hLb hmx hmx2 h h2 hb hbm hmm
  go_enter Try.func7, Try.ntmps7
  go_wp2_with fail
  (with_reducible refine (alive_any _).mono ?_)
  rintro e W1 ⟨rfl, hb⟩
  have HB1 := Lib.hid (HD.out _ _ HB0.out hb)
  clear hb HB0
  go_wp2_with fail
  (with_reducible refine (HG1.out _ HB1.out).mono ?_)
  rintro e W1' ⟨hg, rfl⟩
  rcases hg with rfl | rfl
  rotate_left
  · go_wp2
    go_ret
    exact ⟨rfl, HB1.out⟩
  clear HG1
  go_wp2_with fail
  (with_reducible refine (HG2.out _ HB1.out).mono ?_)
  rintro e W1' ⟨hg, rfl⟩
  rcases hg with rfl | rfl
  rotate_left
  · go_wp2
    go_ret
    exact ⟨rfl, HB1.out⟩
  clear HG2
  by_cases hbig : 4000 < Lb
  · go_wp2
    go_ret
    exact ⟨rfl, HB1.out⟩
  have HB2 : Hid (wB (W1.alloc (.cells #[.map none] 27))) := Lib.hid (HD.out _ _ HB1.out ((Below.refl _ W1).alloc (Nat.le_refl _) _))
  have HS2 : Hid (ShN F (W1.alloc (.cells #[.map none] 27)) W1.heap.size (bhM [] ((l.map (·.r)).take 0))) := by
    obtain ⟨mo, N, h1, h2⟩ := ShN.new W1
    exact Lib.hid ⟨mo, N, h1, fun k hk => Nat.le_trans (HZ.out _ HB1.out) (h2 k hk)⟩
  go_wp2_with fail
  generalize W1.heap.size = s at *
  go_loopw [9] (fun i wr => ∃ j : Nat, j ≤ L ∧ i = .int .i64 (j : Int) ∧ wB wr ∧ ShN F wr s (bhM [] ((l.map (·.r)).take j))) (fun i _ => L - (intOf i).toNat)
  case atStart => exact ⟨0, by omega, rfl, HB2.out, HS2.out⟩
  case round =>
    obtain ⟨j, hj, rfl, h1, h2⟩ := hrel
    rename World => V
    have HB := Lib.hid h1
    have HS := Lib.hid h2
    clear h1 h2 HB1 HB2 HS2
    by_cases hlt : j < L
    · have hjl : j < l.length := by rw [← HL.out]; exact hlt
      obtain ⟨a, rfl, ⟨c0, c1, c2⟩, hrk⟩ := HR1.out _ HB.out j hjl
      have HW : Hid (Calls Try.prog 11 #[.pointer (some ⟨s, 0, none⟩), recA (l.getD j default).r.k (l.getD j default).r.n (l.getD j default).A (l.getD j default).r.d.length (l.getD j default).cap] V fun e w' => ∃ z, e = .returned (.int .i64 z) ∧ wB w' ∧ ShN F w' s (bhM [] ((l.map (·.r)).take (j + 1)))) := by
        refine Lib.hid ((HS.out.write hrk (HZ.out _ HB.out)).mono ?_)
        rintro e w' ⟨rfl, h1, h2⟩
        rw [bhM_take hjl]
        exact ⟨_, rfl, HG.out _ _ HB.out h2, h1⟩
      clear hrk hjl HS HB
      generalize (l.getD j default).r.k = xk at *
      generalize (l.getD j default).r.n = xn at *
      generalize (l.getD j default).r.d.length = xl at *
      generalize (l.getD j default).A = xA at *
      generalize (l.getD j default).cap = xc at *
      go_wp2_with fail
      (with_reducible refine HW.out.mono ?_)
      rintro e V2 ⟨z, rfl, h1, h2⟩
      have HB := Lib.hid h1
      have HS := Lib.hid h2
      clear h1 h2 HW
      go_wp2
      go_roundw
      case rel => exact ⟨j + 1, by omega, by go_num, HB.out, HS.out⟩
      case measure => simp [intOf]; omega
    obtain rfl : j = L := by omega
    obtain ⟨M, hM⟩ : ∃ M, M = bhM [] ((l.map (·.r)).take j) := ⟨_, rfl⟩
    rw [← hM] at HS
    clear hM hlt
    obtain ⟨mo, N, hs, hsF⟩ := HS.out
    have hok := hs.ok
    have HBy := Lib.hid (bytes_any (ShP.of hs))
    have HS3 := Lib.hid hs
    have HSF := Lib.hid hsF
    have hlen := byM_len hok.each hok.len
    have HOk := Lib.hid hok
    clear hs hsF HS hok
    go_wp2_with fail
    (with_reducible refine HBy.out.mono ?_)
    rintro e W3 ⟨v, rfl, hv, hb⟩
    obtain ⟨A5, cap5, rfl, q1, q2, q3, q4⟩ := row_bytes hv
    have HB3 := Lib.hid (HD.out _ _ HB.out hb)
    have HS4 := Lib.hid (HS3.out.below hb)
    have HRd := Lib.hid (read_any (⟨q1, q4, byM_lt HOk.out.each, q2⟩ : BsOk W3 A5 (byM M) cap5) (by omega))
    clear hv hb q1 q2 q3 q4 HBy HS3 HB
    go_wp2_with fail
    (with_reducible refine HRd.out.mono ?_)
    rintro e W4 ⟨hb, hq⟩
    rw [rdA_by HOk.out] at hq
    rcases hq with ⟨hq, _⟩ | ⟨M', bt, mt, Nt, hq, rfl, hst, hbt, hmt⟩
    · cases hq
    injection hq with hq
    subst hq
    have HB4 := Lib.hid (HD.out _ _ HB3.out hb)
    have HS5 := Lib.hid (HS4.out.below hb)
    have HT4 := Lib.hid hst
    have hdis : ∀ k, OfS s mo k → ¬ OfS bt mt k := fun k hk hk2 => by
      have h1 := HS4.out.mlt hk
      rcases hk2 with rfl | hk2
      · omega
      · have := hmt k hk2; omega
    have HDs := Lib.hid hdis
    have HCp := Lib.hid (copy_any HS5.out)
    clear hb hst hbt hmt hdis HRd HS4 HB3
    go_wp2_with fail
    (with_reducible refine HCp.out.mono ?_)
    rintro e W5 ⟨bc, mc, rfl, hsc, hbc, hmc, hb⟩
    have HB5 := Lib.hid (HD.out _ _ HB4.out hb)
    have hdis : ∀ k, OfS s mo k → F ≤ k ∧ ¬ (OfS bt mt k ∨ OfS bc (some mc) k) := fun k hk => ⟨HSF.out k hk, fun hk2 => by
      rcases hk2 with hk2 | rfl | hk2
      · exact HDs.out k hk hk2
      · have := HS5.out.mlt hk; omega
      · injection hk2 with hk2
        have := HS5.out.mlt hk
        omega⟩
    have hTr : Trio F W5 s bt mt Nt bc mc M.length M M := ⟨mo, N, HS5.out.below hb, hdis, HT4.out.below hb, hsc⟩
    have HTr := Lib.hid hTr
    have HBy := Lib.hid (bytes_any (ShP.of (HS5.out.below hb)))
    clear hTr hdis hb hsc hbc hmc HDs HCp HT4 HS5 HB4 HSF
    go_wp2_with fail
    (with_reducible refine HBy.out.mono ?_)
    rintro e W6 ⟨v6, rfl, hv, hb⟩
    have hcv := conv8 (R8.of hv) (byM_lt HOk.out.each)
    have HB6 := Lib.hid (HD.out _ _ HB5.out hb)
    have HTr6 := Lib.hid (HTr.out.below hb)
    clear hv hb HBy HTr HB5
    obtain ⟨sM, hsM⟩ : ∃ sM, sM = strN (byM M) := ⟨_, rfl⟩
    rw [← hsM] at hcv
    have HsM := Lib.hid hsM
    clear hsM
    have hss : (sM.toList == sM.toList) = true := by simp
    have hTr0 : Trio F W6 s bt mt Nt bc mc M.length (bhM M ((l2.map (·.r)).take 0)) M := HTr6.out
    have HTr0 := Lib.hid hTr0
    clear hTr0 HTr6
    go_wp2_with fail
    clear hcv
    go_loopw [14] (fun i wr => ∃ j : Nat, j ≤ L2 ∧ i = .int .i64 (j : Int) ∧ wB wr ∧ Trio F wr s bt mt Nt bc mc M.length (bhM M ((l2.map (·.r)).take j)) M) (fun i _ => L2 - (intOf i).toNat)
    case atStart => exact ⟨0, by omega, rfl, HB6.out, HTr0.out⟩
    case round =>
      obtain ⟨j2, hj2, rfl, h1, h2⟩ := hrel
      rename World => V2
      have HB := Lib.hid h1
      have HS := Lib.hid h2
      clear h1 h2 HB6 HTr0
      by_cases hlt : j2 < L2
      · have hjl : j2 < l2.length := by rw [← HL2.out]; exact hlt
        obtain ⟨a, rfl, ⟨c0, c1, c2⟩, hrk⟩ := HR2.out _ HB.out j2 hjl
        have HW : Hid (Calls Try.prog 11 #[.pointer (some ⟨s, 0, none⟩), recA (l2.getD j2 default).r.k (l2.getD j2 default).r.n (l2.getD j2 default).A (l2.getD j2 default).r.d.length (l2.getD j2 default).cap] V2 fun e w' => ∃ z, e = .returned (.int .i64 z) ∧ wB w' ∧ Trio F w' s bt mt Nt bc mc M.length (bhM M ((l2.map (·.r)).take (j2 + 1))) M) := by
          refine Lib.hid ((HS.out.write hrk (HZ.out _ HB.out)).mono ?_)
          rintro e w' ⟨z, rfl, h1, h2⟩
          rw [bhM_take hjl]
          exact ⟨_, rfl, HG.out _ _ HB.out h2, h1⟩
        clear hrk hjl HS HB
        generalize (l2.getD j2 default).r.k = xk at *
        generalize (l2.getD j2 default).r.n = xn at *
        generalize (l2.getD j2 default).r.d.length = xl at *
        generalize (l2.getD j2 default).A = xA at *
        generalize (l2.getD j2 default).cap = xc at *
        go_wp2_with fail
        (with_reducible refine HW.out.mono ?_)
        rintro e V3 ⟨z, rfl, h1, h2⟩
        have HB := Lib.hid h1
        have HS := Lib.hid h2
        clear h1 h2 HW
        go_wp2
        go_roundw
        case rel => exact ⟨j2 + 1, by omega, by go_num, HB.out, HS.out⟩
        case measure => simp [intOf]; omega
      obtain rfl : j2 = L2 := by omega
      clear hlt
      obtain ⟨mo2, N2, _, _, ht, hc⟩ := HS.out
      have HRd := Lib.hid (read_any (HBs.out _ HB.out) (by rw [← HLb.out]; omega))
      rw [← HLb.out] at HRd
      have HT := Lib.hid ht
      have HC := Lib.hid hc
      clear ht hc HS
      go_wp2_with fail
      (with_reducible refine HRd.out.mono ?_)
      rintro e W8 ⟨hb, hq⟩
      have HB8 := Lib.hid (HD.out _ _ HB.out hb)
      have KT : Hid (∀ U, Below W8.heap.size W8 U → Calls Try.prog 20 #[.pointer (some ⟨bt, 0, none⟩)] U fun e w' => ∃ v, e = .returned v ∧ (convert 30 9 v).run Try.prog w' = .ok (.string sM) w' ∧ Below W8.heap.size W8 w') := by
        refine Lib.hid (fun U hU => (bytes_any (ShP.of ((HT.out.below hb).below hU))).mono ?_)
        rintro e w' ⟨v, rfl, hv, hb'⟩
        exact ⟨v, rfl, by rw [HsM.out]; exact conv8 (R8.of hv) (byM_lt HOk.out.each), hU.trans (hb'.mono hU.size)⟩
      have KC : Hid (∀ U, Below W8.heap.size W8 U → Calls Try.prog 20 #[.pointer (some ⟨bc, 0, none⟩)] U fun e w' => ∃ v, e = .returned v ∧ (convert 30 9 v).run Try.prog w' = .ok (.string sM) w' ∧ Below W8.heap.size W8 w') := by
        refine Lib.hid (fun U hU => (bytes_any (ShP.of ((HC.out.below hb).below hU))).mono ?_)
        rintro e w' ⟨v, rfl, hv, hb'⟩
        exact ⟨v, rfl, by rw [HsM.out]; exact conv8 (R8.of hv) (byM_lt HOk.out.each), hU.trans (hb'.mono hU.size)⟩
      have HFin : Hid (∀ U, Below W8.heap.size W8 U → wB U) := Lib.hid (fun U hU => HD.out _ _ HB8.out hU)
      have d0 : Below W8.heap.size W8 W8.drew := (Below.refl _ _).drew
      rcases hq with ⟨hq, rfl⟩ | ⟨M', bx, mx, Nx, hq, rfl, hsx, _, _⟩
      · clear hq hb HB HT HC HRd HB8
        go_wp2_with fail
        refine wp_region_held_drew (S := Below W8.heap.size W8) (by kernel_rfl) d0 (fun hHeld => ?_)
        simp only [List.size_toArray, List.length_cons, List.length_nil, Nat.reduceAdd, Array.replicate_succ, Array.replicate_zero, List.push_toArray, List.nil_append, List.cons_append, List.append_toArray]
        refine take_op (i := 0) (v := ?_) rfl (by kernel_rfl) (by kernel_rfl) (by kernel_rfl) (fun _ _ _ h => h) (Or.inl ⟨by rfl, ?_⟩) (by assumption) ?_
        rotate_left
        · (intro w' hSw; (try dsimp only at hSw); go_simp; (try with_reducible rfl))
        simp only [Act.put, List.setIfInBounds_toArray, List.set_cons_zero, List.set_cons_succ]
        refine take_op (i := 1) (v := ?_) rfl (by kernel_rfl) (by kernel_rfl) (by kernel_rfl) (fun _ _ _ h => h) (Or.inl ⟨by rfl, ?_⟩) (by assumption) ?_
        rotate_left
        · (intro w' hSw; (try dsimp only at hSw); go_simp; (try with_reducible rfl))
        simp only [Act.put, List.setIfInBounds_toArray, List.set_cons_zero, List.set_cons_succ]
        refine take_op (i := 2) (v := ?_) rfl (by kernel_rfl) (by kernel_rfl) (by kernel_rfl) (fun _ _ _ h => h) (Or.inl ⟨by rfl, ?_⟩) (by assumption) ?_
        rotate_left
        · (intro w' hSw; (try dsimp only at hSw); go_simp; (try with_reducible rfl))
        simp only [Act.put, List.setIfInBounds_toArray, List.set_cons_zero, List.set_cons_succ]
        refine take_op (i := 3) (v := ?_) rfl (by kernel_rfl) (by kernel_rfl) (by kernel_rfl) (fun _ _ _ h => h) (Or.inl ⟨by rfl, ?_⟩) (by assumption) ?_
        rotate_left
        · (intro w' hSw; (try dsimp only at hSw); go_simp; (try with_reducible rfl))
        simp only [Act.put, List.setIfInBounds_toArray, List.set_cons_zero, List.set_cons_succ]
        refine take_op (i := 4) (v := ?_) rfl (by kernel_rfl) (by kernel_rfl) (by kernel_rfl) (fun _ _ _ h => h) (Or.inl ⟨by rfl, ?_⟩) (by assumption) ?_
        rotate_left
        · (intro w' hSw; (try dsimp only at hSw); go_simp; (try with_reducible rfl))
        simp only [Act.put, List.setIfInBounds_toArray, List.set_cons_zero, List.set_cons_succ]
        refine take_op (i := 5) (v := ?_) rfl (by kernel_rfl) (by kernel_rfl) (by kernel_rfl) (fun _ _ _ h => h) (Or.inl ⟨by rfl, ?_⟩) (by assumption) ?_
        rotate_left
        · (intro w' hSw; (try dsimp only at hSw); go_simp; (try with_reducible rfl))
        simp only [Act.put, List.setIfInBounds_toArray, List.set_cons_zero, List.set_cons_succ]
        refine take_op (i := 6) (v := ?_) rfl (by kernel_rfl) (by kernel_rfl) (by kernel_rfl) (fun _ _ _ h => h) (Or.inl ⟨by rfl, ?_⟩) (by assumption) ?_
        rotate_left
        · (intro w' hSw; (try dsimp only at hSw); go_simp; (try with_reducible rfl))
        simp only [Act.put, List.setIfInBounds_toArray, List.set_cons_zero, List.set_cons_succ]
        refine take_op (i := 9) (v := ?_) rfl (by kernel_rfl) (by kernel_rfl) (by kernel_rfl) (fun _ _ _ h => h) (Or.inl ⟨by rfl, ?_⟩) (by assumption) ?_
        rotate_left
        · (intro w' hSw; (try dsimp only at hSw); go_simp; (try with_reducible rfl))
        simp only [Act.put, List.setIfInBounds_toArray, List.set_cons_zero, List.set_cons_succ]
        refine wpAnyH_ready (rs := [7]) (by kernel_rfl) (by simp) ?_
        refine cons_op rfl (fun K hK => ?_) AllReadyH.nil
        go_simp
        with_reducible refine (KT.out _ d0).mono ?_
        rintro e w7 ⟨v7, rfl, hc7, hb7⟩
        (try go_wp2_with fail)
        refine hK.out _ _ hb7 (fun hHeld => ?_)
        clear hK K
        (try simp only [Act.put, List.setIfInBounds_toArray, List.set_cons_zero, List.set_cons_succ])
        refine wpAnyH_ready (rs := [8]) (by kernel_rfl) (by simp) ?_
        refine cons_op rfl (fun K hK => ?_) AllReadyH.nil
        go_simp
        refine hK.out _ _ hb7 (fun hHeld => ?_)
        clear hK K
        (try simp only [Act.put, List.setIfInBounds_toArray, List.set_cons_zero, List.set_cons_succ])
        refine take_op (i := 10) (v := ?_) rfl (by kernel_rfl) (by kernel_rfl) (by kernel_rfl) (fun _ _ _ h => h) (Or.inl ⟨by rfl, ?_⟩) (by assumption) ?_
        rotate_left
        · (intro w' hSw; (try dsimp only at hSw); go_simp; (try with_reducible rfl))
        simp only [Act.put, List.setIfInBounds_toArray, List.set_cons_zero, List.set_cons_succ]
        refine take_op (i := 11) (v := ?_) rfl (by kernel_rfl) (by kernel_rfl) (by kernel_rfl) (fun _ _ _ h => h) (Or.inl ⟨by rfl, ?_⟩) (by assumption) ?_
        rotate_left
        · (intro w' hSw; (try dsimp only at hSw); go_simp; (try with_reducible rfl))
        simp only [Act.put, List.setIfInBounds_toArray, List.set_cons_zero, List.set_cons_succ]
        refine take_op (i := 12) (v := ?_) rfl (by kernel_rfl) (by kernel_rfl) (by kernel_rfl) (fun _ _ _ h => h) (Or.inl ⟨by rfl, ?_⟩) (by assumption) ?_
        rotate_left
        · (intro w' hSw; (try dsimp only at hSw); go_simp; (try with_reducible rfl))
        simp only [Act.put, List.setIfInBounds_toArray, List.set_cons_zero, List.set_cons_succ]
        refine take_op (i := 13) (v := ?_) rfl (by kernel_rfl) (by kernel_rfl) (by kernel_rfl) (fun _ _ _ h => h) (Or.inl ⟨by rfl, ?_⟩) (by assumption) ?_
        rotate_left
        · (intro w' hSw; (try dsimp only at hSw); go_simp; (try with_reducible rfl))
        simp only [Act.put, List.setIfInBounds_toArray, List.set_cons_zero, List.set_cons_succ]
        refine take_op (i := 16) (v := ?_) rfl (by kernel_rfl) (by kernel_rfl) (by kernel_rfl) (fun _ _ _ h => h) (Or.inl ⟨by rfl, ?_⟩) (by assumption) ?_
        rotate_left
        · (intro w' hSw; (try dsimp only at hSw); go_simp; (try with_reducible rfl))
        simp only [Act.put, List.setIfInBounds_toArray, List.set_cons_zero, List.set_cons_succ]
        refine wpAnyH_ready (rs := [14]) (by kernel_rfl) (by simp) ?_
        refine cons_op rfl (fun K hK => ?_) AllReadyH.nil
        go_simp
        with_reducible refine (KC.out _ hb7).mono ?_
        rintro e w14 ⟨v14, rfl, hc14, hb14⟩
        (try go_wp2_with fail)
        refine hK.out _ _ hb14 (fun hHeld => ?_)
        clear hK K
        (try simp only [Act.put, List.setIfInBounds_toArray, List.set_cons_zero, List.set_cons_succ])
        refine wpAnyH_ready (rs := [15]) (by kernel_rfl) (by simp) ?_
        refine cons_op rfl (fun K hK => ?_) AllReadyH.nil
        go_simp
        refine hK.out _ _ hb14 (fun hHeld => ?_)
        clear hK K
        (try simp only [Act.put, List.setIfInBounds_toArray, List.set_cons_zero, List.set_cons_succ])
        refine take_op (i := 17) (v := ?_) rfl (by kernel_rfl) (by kernel_rfl) (by kernel_rfl) (fun _ _ _ h => h) (Or.inl ⟨by rfl, ?_⟩) (by assumption) ?_
        rotate_left
        · (intro w' hSw; (try dsimp only at hSw); go_simp; (try with_reducible rfl))
        simp only [Act.put, List.setIfInBounds_toArray, List.set_cons_zero, List.set_cons_succ]
        refine take_op (i := 18) (v := ?_) rfl (by kernel_rfl) (by kernel_rfl) (by kernel_rfl) (fun _ _ _ h => h) (Or.inl ⟨by rfl, ?_⟩) (by assumption) ?_
        rotate_left
        · (intro w' hSw; (try dsimp only at hSw); go_simp; (try with_reducible rfl))
        simp only [Act.put, List.setIfInBounds_toArray, List.set_cons_zero, List.set_cons_succ]
        refine take_op (i := 19) (v := ?_) rfl (by kernel_rfl) (by kernel_rfl) (by kernel_rfl) (fun _ _ _ h => h) (Or.inl ⟨by rfl, ?_⟩) (by assumption) ?_
        rotate_left
        · (intro w' hSw; (try dsimp only at hSw); go_simp; (try with_reducible rfl))
        simp only [Act.put, List.setIfInBounds_toArray, List.set_cons_zero, List.set_cons_succ]
        refine take_op (i := 20) (v := ?_) rfl (by kernel_rfl) (by kernel_rfl) (by kernel_rfl) (fun _ _ _ h => h) (Or.inl ⟨by rfl, ?_⟩) (by assumption) ?_
        rotate_left
        · (intro w' hSw; (try dsimp only at hSw); go_simp; (try with_reducible rfl))
        simp only [Act.put, List.setIfInBounds_toArray, List.set_cons_zero, List.set_cons_succ]
        refine take_op (i := 21) (v := ?_) rfl (by kernel_rfl) (by kernel_rfl) (by kernel_rfl) (fun _ _ _ h => h) (Or.inl ⟨by rfl, ?_⟩) (by assumption) ?_
        rotate_left
        · (intro w' hSw; (try dsimp only at hSw); go_simp; (try with_reducible rfl))
        simp only [Act.put, List.setIfInBounds_toArray, List.set_cons_zero, List.set_cons_succ]
        refine take_op (i := 22) (v := ?_) rfl (by kernel_rfl) (by kernel_rfl) (by kernel_rfl) (fun _ _ _ h => h) (Or.inl ⟨by rfl, ?_⟩) (by assumption) ?_
        rotate_left
        · (intro w' hSw; (try dsimp only at hSw); go_simp; (try with_reducible rfl))
        simp only [Act.put, List.setIfInBounds_toArray, List.set_cons_zero, List.set_cons_succ]
        refine take_op (i := 23) rfl (by kernel_rfl) (by kernel_rfl) (by kernel_rfl) (fun _ _ _ h => h) (Or.inr ⟨by rfl, rfl⟩) (by assumption) ?_
        (try simp only [Act.put, List.setIfInBounds_toArray, List.set_cons_zero, List.set_cons_succ])
        refine take_op (i := 24) rfl (by kernel_rfl) (by kernel_rfl) (by kernel_rfl) (fun _ _ _ h => h) (Or.inr ⟨by rfl, rfl⟩) (by assumption) ?_
        (try simp only [Act.put, List.setIfInBounds_toArray, List.set_cons_zero, List.set_cons_succ])
        refine take_op (i := 25) rfl (by kernel_rfl) (by kernel_rfl) (by kernel_rfl) (fun _ _ _ h => h) (Or.inr ⟨by rfl, rfl⟩) (by assumption) ?_
        (try simp only [Act.put, List.setIfInBounds_toArray, List.set_cons_zero, List.set_cons_succ])
        refine take_op (i := 26) rfl (by kernel_rfl) (by kernel_rfl) (by kernel_rfl) (fun _ _ _ h => h) (Or.inr ⟨by rfl, rfl⟩) (by assumption) ?_
        (try simp only [Act.put, List.setIfInBounds_toArray, List.set_cons_zero, List.set_cons_succ])
        refine take_op (i := 27) rfl (by kernel_rfl) (by kernel_rfl) (by kernel_rfl) (fun _ _ _ h => h) (Or.inr ⟨by rfl, rfl⟩) (by assumption) ?_
        (try simp only [Act.put, List.setIfInBounds_toArray, List.set_cons_zero, List.set_cons_succ])
        refine take_op (i := 28) rfl (by kernel_rfl) (by kernel_rfl) (by kernel_rfl) (fun _ _ _ h => h) (Or.inr ⟨by rfl, rfl⟩) (by assumption) ?_
        (try simp only [Act.put, List.setIfInBounds_toArray, List.set_cons_zero, List.set_cons_succ])
        refine take_op (i := 29) (v := ?_) rfl (by kernel_rfl) (by kernel_rfl) (by kernel_rfl) (fun _ _ _ h => h) (Or.inl ⟨by rfl, ?_⟩) (by assumption) ?_
        rotate_left
        · (intro w' hSw; (try dsimp only at hSw); go_simp; (try with_reducible rfl))
        simp only [Act.put, List.setIfInBounds_toArray, List.set_cons_zero, List.set_cons_succ]
        refine take_op (i := 30) (v := ?_) rfl (by kernel_rfl) (by kernel_rfl) (by kernel_rfl) (fun _ _ _ h => h) (Or.inl ⟨by rfl, ?_⟩) (by assumption) ?_
        rotate_left
        · (intro w' hSw; (try dsimp only at hSw); go_simp; (try with_reducible rfl))
        simp only [Act.put, List.setIfInBounds_toArray, List.set_cons_zero, List.set_cons_succ]
        refine take_op (i := 31) (v := ?_) rfl (by kernel_rfl) (by kernel_rfl) (by kernel_rfl) (fun _ _ _ h => h) (Or.inl ⟨by rfl, ?_⟩) (by assumption) ?_
        rotate_left
        · (intro w' hSw; (try dsimp only at hSw); go_simp; (try with_reducible rfl))
        simp only [Act.put, List.setIfInBounds_toArray, List.set_cons_zero, List.set_cons_succ]
        refine wpAnyH_done (by kernel_rfl) ?_ _
        have HFF := Lib.hid (HFin.out _ hb14)
        clear KT KC d0 hb7 hb14
        go_wp2
        go_ret
        exact ⟨rfl, HFF.out⟩
      · obtain ⟨hokx, hbyx⟩ := rdA_some (HBs.out _ HB.out).lt hq
        obtain ⟨sB, hsB⟩ : ∃ sB, sB = strN b := ⟨_, rfl⟩
        have KX : Hid (∀ U, Below W8.heap.size W8 U → Calls Try.prog 20 #[.pointer (some ⟨bx, 0, none⟩)] U fun e w' => ∃ v, e = .returned v ∧ (convert 30 9 v).run Try.prog w' = .ok (.string sB) w' ∧ Below W8.heap.size W8 w') := by
          refine Lib.hid (fun U hU => (bytes_any (ShP.of (hsx.below hU))).mono ?_)
          rintro e w' ⟨v, rfl, hv, hb'⟩
          exact ⟨v, rfl, by rw [hsB, ← hbyx]; exact conv8 (R8.of hv) (byM_lt hokx.each), hU.trans (hb'.mono hU.size)⟩
        have HCB : Hid (∀ U, Below W8.heap.size W8 U → (convert 30 9 (.slice A3 Lb cap3)).run Try.prog U = .ok (.string sB) U) := by
          refine Lib.hid (fun U hU => ?_)
          have h9 := HBs.out _ (HFin.out _ hU)
          rw [HLb.out, hsB]
          exact conv_bytes _ h9.dat h9.lt
        have hsb : (sB.toList == sB.toList) = true := by simp
        clear hq hb HB HT HC HRd HB8 hokx hbyx hsx hsB
        go_wp2_with fail
        refine wp_region_held_drew (S := Below W8.heap.size W8) (by kernel_rfl) d0 (fun hHeld => ?_)
        simp only [List.size_toArray, List.length_cons, List.length_nil, Nat.reduceAdd, Array.replicate_succ, Array.replicate_zero, List.push_toArray, List.nil_append, List.cons_append, List.append_toArray]
        refine take_op (i := 0) (v := ?_) rfl (by kernel_rfl) (by kernel_rfl) (by kernel_rfl) (fun _ _ _ h => h) (Or.inl ⟨by rfl, ?_⟩) (by assumption) ?_
        rotate_left
        · (intro w' hSw; (try dsimp only at hSw); go_simp; (try with_reducible rfl))
        simp only [Act.put, List.setIfInBounds_toArray, List.set_cons_zero, List.set_cons_succ]
        refine take_op (i := 1) (v := ?_) rfl (by kernel_rfl) (by kernel_rfl) (by kernel_rfl) (fun _ _ _ h => h) (Or.inl ⟨by rfl, ?_⟩) (by assumption) ?_
        rotate_left
        · (intro w' hSw; (try dsimp only at hSw); go_simp; (try with_reducible rfl))
        simp only [Act.put, List.setIfInBounds_toArray, List.set_cons_zero, List.set_cons_succ]
        refine take_op (i := 2) (v := ?_) rfl (by kernel_rfl) (by kernel_rfl) (by kernel_rfl) (fun _ _ _ h => h) (Or.inl ⟨by rfl, ?_⟩) (by assumption) ?_
        rotate_left
        · (intro w' hSw; (try dsimp only at hSw); go_simp; (try with_reducible rfl))
        simp only [Act.put, List.setIfInBounds_toArray, List.set_cons_zero, List.set_cons_succ]
        refine take_op (i := 3) (v := ?_) rfl (by kernel_rfl) (by kernel_rfl) (by kernel_rfl) (fun _ _ _ h => h) (Or.inl ⟨by rfl, ?_⟩) (by assumption) ?_
        rotate_left
        · (intro w' hSw; (try dsimp only at hSw); go_simp; (try with_reducible rfl))
        simp only [Act.put, List.setIfInBounds_toArray, List.set_cons_zero, List.set_cons_succ]
        refine take_op (i := 4) (v := ?_) rfl (by kernel_rfl) (by kernel_rfl) (by kernel_rfl) (fun _ _ _ h => h) (Or.inl ⟨by rfl, ?_⟩) (by assumption) ?_
        rotate_left
        · (intro w' hSw; (try dsimp only at hSw); go_simp; (try with_reducible rfl))
        simp only [Act.put, List.setIfInBounds_toArray, List.set_cons_zero, List.set_cons_succ]
        refine take_op (i := 5) (v := ?_) rfl (by kernel_rfl) (by kernel_rfl) (by kernel_rfl) (fun _ _ _ h => h) (Or.inl ⟨by rfl, ?_⟩) (by assumption) ?_
        rotate_left
        · (intro w' hSw; (try dsimp only at hSw); go_simp; (try with_reducible rfl))
        simp only [Act.put, List.setIfInBounds_toArray, List.set_cons_zero, List.set_cons_succ]
        refine take_op (i := 6) (v := ?_) rfl (by kernel_rfl) (by kernel_rfl) (by kernel_rfl) (fun _ _ _ h => h) (Or.inl ⟨by rfl, ?_⟩) (by assumption) ?_
        rotate_left
        · (intro w' hSw; (try dsimp only at hSw); go_simp; (try with_reducible rfl))
        simp only [Act.put, List.setIfInBounds_toArray, List.set_cons_zero, List.set_cons_succ]
        refine take_op (i := 9) (v := ?_) rfl (by kernel_rfl) (by kernel_rfl) (by kernel_rfl) (fun _ _ _ h => h) (Or.inl ⟨by rfl, ?_⟩) (by assumption) ?_
        rotate_left
        · (intro w' hSw; (try dsimp only at hSw); go_simp; (try with_reducible rfl))
        simp only [Act.put, List.setIfInBounds_toArray, List.set_cons_zero, List.set_cons_succ]
        refine wpAnyH_ready (rs := [7]) (by kernel_rfl) (by simp) ?_
        refine cons_op rfl (fun K hK => ?_) AllReadyH.nil
        go_simp
        with_reducible refine (KT.out _ d0).mono ?_
        rintro e w7 ⟨v7, rfl, hc7, hb7⟩
        (try go_wp2_with fail)
        refine hK.out _ _ hb7 (fun hHeld => ?_)
        clear hK K
        (try simp only [Act.put, List.setIfInBounds_toArray, List.set_cons_zero, List.set_cons_succ])
        refine wpAnyH_ready (rs := [8]) (by kernel_rfl) (by simp) ?_
        refine cons_op rfl (fun K hK => ?_) AllReadyH.nil
        go_simp
        refine hK.out _ _ hb7 (fun hHeld => ?_)
        clear hK K
        (try simp only [Act.put, List.setIfInBounds_toArray, List.set_cons_zero, List.set_cons_succ])
        refine take_op (i := 10) (v := ?_) rfl (by kernel_rfl) (by kernel_rfl) (by kernel_rfl) (fun _ _ _ h => h) (Or.inl ⟨by rfl, ?_⟩) (by assumption) ?_
        rotate_left
        · (intro w' hSw; (try dsimp only at hSw); go_simp; (try with_reducible rfl))
        simp only [Act.put, List.setIfInBounds_toArray, List.set_cons_zero, List.set_cons_succ]
        refine take_op (i := 11) (v := ?_) rfl (by kernel_rfl) (by kernel_rfl) (by kernel_rfl) (fun _ _ _ h => h) (Or.inl ⟨by rfl, ?_⟩) (by assumption) ?_
        rotate_left
        · (intro w' hSw; (try dsimp only at hSw); go_simp; (try with_reducible rfl))
        simp only [Act.put, List.setIfInBounds_toArray, List.set_cons_zero, List.set_cons_succ]
        refine take_op (i := 12) (v := ?_) rfl (by kernel_rfl) (by kernel_rfl) (by kernel_rfl) (fun _ _ _ h => h) (Or.inl ⟨by rfl, ?_⟩) (by assumption) ?_
        rotate_left
        · (intro w' hSw; (try dsimp only at hSw); go_simp; (try with_reducible rfl))
        simp only [Act.put, List.setIfInBounds_toArray, List.set_cons_zero, List.set_cons_succ]
        refine take_op (i := 13) (v := ?_) rfl (by kernel_rfl) (by kernel_rfl) (by kernel_rfl) (fun _ _ _ h => h) (Or.inl ⟨by rfl, ?_⟩) (by assumption) ?_
        rotate_left
        · (intro w' hSw; (try dsimp only at hSw); go_simp; (try with_reducible rfl))
        simp only [Act.put, List.setIfInBounds_toArray, List.set_cons_zero, List.set_cons_succ]
        refine take_op (i := 16) (v := ?_) rfl (by kernel_rfl) (by kernel_rfl) (by kernel_rfl) (fun _ _ _ h => h) (Or.inl ⟨by rfl, ?_⟩) (by assumption) ?_
        rotate_left
        · (intro w' hSw; (try dsimp only at hSw); go_simp; (try with_reducible rfl))
        simp only [Act.put, List.setIfInBounds_toArray, List.set_cons_zero, List.set_cons_succ]
        refine wpAnyH_ready (rs := [14]) (by kernel_rfl) (by simp) ?_
        refine cons_op rfl (fun K hK => ?_) AllReadyH.nil
        go_simp
        with_reducible refine (KC.out _ hb7).mono ?_
        rintro e w14 ⟨v14, rfl, hc14, hb14⟩
        (try go_wp2_with fail)
        refine hK.out _ _ hb14 (fun hHeld => ?_)
        clear hK K
        (try simp only [Act.put, List.setIfInBounds_toArray, List.set_cons_zero, List.set_cons_succ])
        refine wpAnyH_ready (rs := [15]) (by kernel_rfl) (by simp) ?_
        refine cons_op rfl (fun K hK => ?_) AllReadyH.nil
        go_simp
        refine hK.out _ _ hb14 (fun hHeld => ?_)
        clear hK K
        (try simp only [Act.put, List.setIfInBounds_toArray, List.set_cons_zero, List.set_cons_succ])
        refine take_op (i := 17) (v := ?_) rfl (by kernel_rfl) (by kernel_rfl) (by kernel_rfl) (fun _ _ _ h => h) (Or.inl ⟨by rfl, ?_⟩) (by assumption) ?_
        rotate_left
        · (intro w' hSw; (try dsimp only at hSw); go_simp; (try with_reducible rfl))
        simp only [Act.put, List.setIfInBounds_toArray, List.set_cons_zero, List.set_cons_succ]
        refine take_op (i := 18) (v := ?_) rfl (by kernel_rfl) (by kernel_rfl) (by kernel_rfl) (fun _ _ _ h => h) (Or.inl ⟨by rfl, ?_⟩) (by assumption) ?_
        rotate_left
        · (intro w' hSw; (try dsimp only at hSw); go_simp; (try with_reducible rfl))
        simp only [Act.put, List.setIfInBounds_toArray, List.set_cons_zero, List.set_cons_succ]
        refine take_op (i := 19) (v := ?_) rfl (by kernel_rfl) (by kernel_rfl) (by kernel_rfl) (fun _ _ _ h => h) (Or.inl ⟨by rfl, ?_⟩) (by assumption) ?_
        rotate_left
        · (intro w' hSw; (try dsimp only at hSw); go_simp; (try with_reducible rfl))
        simp only [Act.put, List.setIfInBounds_toArray, List.set_cons_zero, List.set_cons_succ]
        refine take_op (i := 20) (v := ?_) rfl (by kernel_rfl) (by kernel_rfl) (by kernel_rfl) (fun _ _ _ h => h) (Or.inl ⟨by rfl, ?_⟩) (by assumption) ?_
        rotate_left
        · (intro w' hSw; (try dsimp only at hSw); go_simp; (try with_reducible rfl))
        simp only [Act.put, List.setIfInBounds_toArray, List.set_cons_zero, List.set_cons_succ]
        refine take_op (i := 21) (v := ?_) rfl (by kernel_rfl) (by kernel_rfl) (by kernel_rfl) (fun _ _ _ h => h) (Or.inl ⟨by rfl, ?_⟩) (by assumption) ?_
        rotate_left
        · (intro w' hSw; (try dsimp only at hSw); go_simp; (try with_reducible rfl))
        simp only [Act.put, List.setIfInBounds_toArray, List.set_cons_zero, List.set_cons_succ]
        refine take_op (i := 22) (v := ?_) rfl (by kernel_rfl) (by kernel_rfl) (by kernel_rfl) (fun _ _ _ h => h) (Or.inl ⟨by rfl, ?_⟩) (by assumption) ?_
        rotate_left
        · (intro w' hSw; (try dsimp only at hSw); go_simp; (try with_reducible rfl))
        simp only [Act.put, List.setIfInBounds_toArray, List.set_cons_zero, List.set_cons_succ]
        refine take_op (i := 23) (v := ?_) rfl (by kernel_rfl) (by kernel_rfl) (by kernel_rfl) (fun _ _ _ h => h) (Or.inl ⟨by rfl, ?_⟩) (by assumption) ?_
        rotate_left
        · (intro w' hSw; (try dsimp only at hSw); go_simp; (try with_reducible rfl))
        simp only [Act.put, List.setIfInBounds_toArray, List.set_cons_zero, List.set_cons_succ]
        refine take_op (i := 26) (v := ?_) rfl (by kernel_rfl) (by kernel_rfl) (by kernel_rfl) (fun _ _ _ h => h) (Or.inl ⟨by rfl, ?_⟩) (by assumption) ?_
        rotate_left
        · (intro w' hSw; (try dsimp only at hSw); go_simp; (try with_reducible rfl))
        simp only [Act.put, List.setIfInBounds_toArray, List.set_cons_zero, List.set_cons_succ]
        refine take_op (i := 27) (v := ?_) rfl (by kernel_rfl) (by kernel_rfl) (by kernel_rfl) (fun _ _ _ h => h) (Or.inl ⟨by rfl, ?_⟩) (by assumption) ?_
        rotate_left
        · (intro w' hSw; have hcB := HCB.out _ hSw; go_simp; (try with_reducible rfl))
        simp only [Act.put, List.setIfInBounds_toArray, List.set_cons_zero, List.set_cons_succ]
        refine wpAnyH_ready (rs := [24]) (by kernel_rfl) (by simp) ?_
        refine cons_op rfl (fun K hK => ?_) AllReadyH.nil
        go_simp
        with_reducible refine (KX.out _ hb14).mono ?_
        rintro e w24 ⟨v24, rfl, hc24, hb24⟩
        (try go_wp2_with fail)
        refine hK.out _ _ hb24 (fun hHeld => ?_)
        clear hK K
        (try simp only [Act.put, List.setIfInBounds_toArray, List.set_cons_zero, List.set_cons_succ])
        refine wpAnyH_ready (rs := [25]) (by kernel_rfl) (by simp) ?_
        refine cons_op rfl (fun K hK => ?_) AllReadyH.nil
        go_simp
        refine hK.out _ _ hb24 (fun hHeld => ?_)
        clear hK K
        (try simp only [Act.put, List.setIfInBounds_toArray, List.set_cons_zero, List.set_cons_succ])
        refine take_op (i := 28) (v := ?_) rfl (by kernel_rfl) (by kernel_rfl) (by kernel_rfl) (fun _ _ _ h => h) (Or.inl ⟨by rfl, ?_⟩) (by assumption) ?_
        rotate_left
        · (intro w' hSw; (try dsimp only at hSw); go_simp; (try with_reducible rfl))
        simp only [Act.put, List.setIfInBounds_toArray, List.set_cons_zero, List.set_cons_succ]
        refine take_op (i := 29) (v := ?_) rfl (by kernel_rfl) (by kernel_rfl) (by kernel_rfl) (fun _ _ _ h => h) (Or.inl ⟨by rfl, ?_⟩) (by assumption) ?_
        rotate_left
        · (intro w' hSw; (try dsimp only at hSw); go_simp; (try with_reducible rfl))
        simp only [Act.put, List.setIfInBounds_toArray, List.set_cons_zero, List.set_cons_succ]
        refine take_op (i := 30) (v := ?_) rfl (by kernel_rfl) (by kernel_rfl) (by kernel_rfl) (fun _ _ _ h => h) (Or.inl ⟨by rfl, ?_⟩) (by assumption) ?_
        rotate_left
        · (intro w' hSw; (try dsimp only at hSw); go_simp; (try with_reducible rfl))
        simp only [Act.put, List.setIfInBounds_toArray, List.set_cons_zero, List.set_cons_succ]
        refine take_op (i := 31) (v := ?_) rfl (by kernel_rfl) (by kernel_rfl) (by kernel_rfl) (fun _ _ _ h => h) (Or.inl ⟨by rfl, ?_⟩) (by assumption) ?_
        rotate_left
        · (intro w' hSw; (try dsimp only at hSw); go_simp; (try with_reducible rfl))
        simp only [Act.put, List.setIfInBounds_toArray, List.set_cons_zero, List.set_cons_succ]
        refine wpAnyH_done (by kernel_rfl) ?_ _
        have HFF := Lib.hid (HFin.out _ hb24)
        clear KT KC KX HCB d0 hb7 hb14 hb24
        go_wp2
        go_ret
        exact ⟨rfl, HFF.out⟩
end Go.Proofs.Ytgciibcngmimkaa
