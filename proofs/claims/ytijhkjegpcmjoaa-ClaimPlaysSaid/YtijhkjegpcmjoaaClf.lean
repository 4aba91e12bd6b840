/-
  ClaimFull: never more claims than may be, rising, each once.
-/
import Derived.Test.YtijhkjegpcmjoaaCl5
import Derived.Test.YtijhkjegpcmjoaaCli
import Derived.Deep.DeepCutAuto
namespace Go.Proofs.Ytijhkjegpcmjoaa
set_option maxRecDepth 100000
set_option linter.unusedSimpArgs false
open Go Go.RowKit Cl

theorem OpsAt.below {w w' : World} {A : Option Addr} {l : List Kop} (h : OpsAt w A l) (hb : Below w.heap.size w w') : OpsAt w' A l := h.kept (Kept.of_below (X := fun _ => False) hb (Nat.le_refl _)) (fun _ _ => id)
/-- Claims of a call's own. -/
def CL (w : World) (b : Nat) (Φ : List Cm → Prop) (V : World) : Prop := ∃ s, CAt V b s ∧ w.heap.size ≤ b ∧ Below w.heap.size w V ∧ Φ s
theorem CL.below {w V V' : World} {b : Nat} {Φ : List Cm → Prop} (h : CL w b Φ V) (hb : Below V.heap.size V V') : CL w b Φ V' := by
  obtain ⟨s, h1, h2, h3, h4⟩ := h
  exact ⟨s, h1.below hb, h2, h3.trans (hb.mono h3.size), h4⟩
theorem CL.kept {w V V' : World} {b : Nat} {s : List Cm} {Φ : List Cm → Prop} (h2 : w.heap.size ≤ b) (h3 : Below w.heap.size w V) (hk : Kept (fun k => k = b) V V') (h1 : CAt V' b s) (h4 : Φ s) : CL w b Φ V' :=
  ⟨s, h1, h2, h3.trans (hk.below (fun k h => by omega) h3.size), h4⟩
theorem takeE_bool (s : List Cm) (h : s.length ≤ 16) (c : Int) : (takeE s c == 0) = (isC c && (!has s c && decide ((s.length : Int) < 16))) := by
  unfold takeE
  cases isC c with
  | false => rfl
  | true =>
    cases has s c with
    | true => rfl
    | false =>
      by_cases e : s.length = 16
      · rw [if_neg (by decide), if_neg (by decide), if_pos e, decide_eq_false (by omega)]; rfl
      · rw [if_neg (by decide), if_neg (by decide), if_neg e, decide_eq_true (by omega)]; rfl
set_option maxHeartbeats 4000000 in
theorem full_any {w : World} {A : Option Addr} {l : List Kop} {cap : Nat} (hA : OpsAt w A l) (hm : ∀ k, k < l.length → OpIn (l.getD k default)) :
    Calls Try.prog 8 #[.slice A l.length cap] w fun e w' => e = .returned (.bool true) ∧ Below w.heap.size w w' := by
  have HAl := Lib.hid (alive_any w)
  have HA := Lib.hid hA
  have HM := Lib.hid hm
  clear hA hm
  obtain ⟨N, hN⟩ : ∃ N, N = l.length := ⟨_, rfl⟩
  have HN := Lib.hid hN
  rw [← hN] at HM ⊢
  clear hN
  by_cases hl : 100 < N
  · have d1 : decide ((100 : Int) < (N : Int)) = true := by simp; omega
    go_enter Try.func8, Try.ntmps8
    go_wp2_with fail
    refine HAl.out.mono ?_
    rintro e W0 ⟨rfl, b0⟩
    have HB := Lib.hid b0
    clear b0
    go_wp2
    go_ret
    exact ⟨rfl, HB.out⟩
  · have d1 : decide ((100 : Int) < (N : Int)) = false := by simp; omega
    have hN100 : N ≤ 100 := by omega
    clear hl
    go_enter Try.func8, Try.ntmps8
    go_wp2_with fail
    refine HAl.out.mono ?_
    rintro e W0 ⟨rfl, b0⟩
    obtain ⟨b, hb⟩ : ∃ b, b = W0.heap.size := ⟨_, rfl⟩
    obtain ⟨W1, hW1⟩ : ∃ W1, W0.alloc (.cells z33 29) = W1 := ⟨_, rfl⟩
    have h0 : CL w b (fun _ => True) W1 := by
      rw [← hW1, hb]
      exact ⟨[], z33_new W0, b0.size, b0.trans ((alloc_below W0 _).mono b0.size), trivial⟩
    have H0 := Lib.hid h0
    have HB0 := Lib.hid b0
    clear h0 HAl b0
    unfold z33 at hW1
    go_wp2_with fail
    clear hW1
    rw [← hb]
    clear hb
    go_loopw [28] (fun u wr => ∃ j : Nat, j ≤ N ∧ u = .int .i64 (j : Int) ∧ CL w b (fun _ => True) wr) (fun u _ => N - (intOf u).toNat)
    case atStart => exact ⟨0, Nat.zero_le _, rfl, H0.out⟩
    case round =>
      rename World => wr
      obtain ⟨j, hj, rfl, hC⟩ := hrel
      by_cases hlt : j < N
      · have d2 : decide ((j : Int) < (N : Int)) = true := by simp; omega
        have hop := HM.out j hlt
        obtain ⟨s, h1, h2, h3, _⟩ := hC
        obtain ⟨a, rfl, _⟩ := (HA.out.below h3) j (by rw [← HN.out]; exact hlt)
        have HC : Hid (∀ V, Below w.heap.size w V → V.cell? (a.add (j * 4)) = some (.int .i64 (l.getD j default).k) ∧ V.cell? ⟨(a.add (j * 4)).block, (a.add (j * 4)).off + 1, none⟩ = some (.int .i64 (l.getD j default).c) ∧ V.cell? ⟨(a.add (j * 4)).block, (a.add (j * 4)).off + 2, none⟩ = some (.int .u32 (l.getD j default).g)) := by
          intro V hV
          obtain ⟨a', e, q0, q1, q2, _⟩ := (HA.out.below hV) j (by rw [← HN.out]; exact hlt)
          cases e
          exact ⟨q0, q1, q2⟩
        generalize l.getD j default = y at *
        obtain ⟨yk, yc, yg, yr⟩ := y
        obtain ⟨hg, _⟩ := hop
        simp only at hg HC
        have H1 := Lib.hid h1
        have H3 := Lib.hid h3
        have HA1 := Lib.hid (all_any (.inr ⟨b, rfl, h1⟩))
        clear h1 h3
        have j0 : (0 : Int) ≤ (j : Int) := by omega
        have j1 : (j : Int) < (N : Int) := by omega
        go_wp2_with fail
        refine HA1.out.mono ?_
        rintro e W2 ⟨v2, rfl, hr2, hb2⟩
        obtain ⟨A2, cap2, rfl⟩ := row_isM hr2
        have h3 := H3.out.trans (hb2.mono H3.out.size)
        have h1 := H1.out.below hb2
        obtain ⟨_, z1, _⟩ := HC.out W2 h3
        have HG := Lib.hid (gen_any (.inr ⟨b, rfl, h1⟩) yc)
        have H1' := Lib.hid h1
        have H3' := Lib.hid h3
        clear hr2 hb2 h1 h3 HA1 H1 H3
        go_wp2_with fail
        refine HG.out.mono ?_
        rintro e W3 ⟨rfl, hb3⟩
        have h3 := H3'.out.trans (hb3.mono H3'.out.size)
        have h1 := H1'.out.below hb3
        obtain ⟨z0, z1, z2⟩ := HC.out W3 h3
        have H1 := Lib.hid h1
        have H3 := Lib.hid h3
        clear h1 h3 HG H1' H3' hb3
        go_upto_region 10 with (fail)
        go_cut [9] (fun v wx => v = .bool (isC yc) ∧ wx = W3)
        case first =>
          by_cases hc0 : 0 ≤ yc
          · by_cases hc1 : yc < 1024
            · have e : Hid (isC yc = true) := by show _ = _; unfold isC; rw [decide_eq_true hc0, decide_eq_true hc1]; rfl
              go_wp2
              go_meet
              exact ⟨by rw [e.out], rfl⟩
            · have e : Hid (isC yc = false) := by show _ = _; unfold isC; rw [decide_eq_false hc1, Bool.and_false]
              go_wp2
              go_meet
              exact ⟨by rw [e.out], rfl⟩
          · have e : Hid (isC yc = false) := by show _ = _; unfold isC; rw [decide_eq_false hc0, Bool.false_and]
            go_wp2
            go_meet
            exact ⟨by rw [e.out], rfl⟩
        case rest =>
          obtain ⟨rfl, rfl⟩ := hcut
          have hs16 := H1.out.1.len
          have hT := takeE_bool s hs16 yc
          have HT := Lib.hid hT
          clear hT
          obtain ⟨s2, hs2⟩ : ∃ s2, s2 = if yk = 1 then dropL s yc else takeL s ⟨yc, yg⟩ := ⟨_, rfl⟩
          have HS2 := Lib.hid hs2
          clear hs2
          go_upto_if 63 with (fail)
          go_cut [10, 11, 12] (fun _ _ _ wx => CL w b (fun t => t = s2) wx)
          case first =>
            by_cases hk : yk = 1
            · subst hk
              have HD : Hid (Calls Try.prog 11 #[.pointer (some ⟨b, 0, none⟩), .int .i64 yc] wc fun e w' => e = .returned (.tuple #[.int .u32 (genG s yc), .bool (has s yc)]) ∧ CL w b (fun t => t = s2) w') := by
                refine (drop_any H1.out yc).mono ?_
                rintro e w' ⟨rfl, q1, q2⟩
                rw [if_pos rfl] at HS2
                exact ⟨rfl, CL.kept h2 H3.out q2 (by rw [HS2.out]; exact q1) rfl⟩
              have hbb : (has s yc != has s yc) = false := by cases has s yc <;> rfl
              clear H1 H3 HS2 HT
              generalize has s yc = hb at *
              generalize genG s yc = gg at *
              go_wp2_with fail
              refine HD.out.mono ?_
              rintro e w4 ⟨rfl, hc⟩
              have HF := Lib.hid hc
              clear hc HD
              go_wp2
              go_meet
              exact HF.out
            · have hk' : (yk == 1) = false := by simpa using hk
              have HTk : Hid (∀ V, V = wc.drew → Calls Try.prog 9 #[.pointer (some ⟨b, 0, none⟩), .int .i64 yc, .int .u32 yg] V fun e w' => e = .returned (.int .i64 (takeE s yc)) ∧ CL w b (fun t => t = s2) w' ∧ w'.cell? ⟨(a.add (j * 4)).block, (a.add (j * 4)).off + 1, none⟩ = some (.int .i64 yc) ∧ w'.cell? ⟨(a.add (j * 4)).block, (a.add (j * 4)).off + 2, none⟩ = some (.int .u32 yg)) := by
                rintro V rfl
                refine (take_any (x := ⟨yc, yg⟩) (w := wc.drew) (H1.out.below (Below.refl _ _).drew) hg).mono ?_
                rintro e w' ⟨rfl, q1, q2⟩
                rw [if_neg hk] at HS2
                have q3 : CL w b (fun t => t = s2) w' := CL.kept h2 H3.out.drew q2 (by rw [HS2.out]; exact q1) rfl
                have q3' := q3
                obtain ⟨_, _, _, hBw, _⟩ := q3'
                obtain ⟨_, q4, q5⟩ := HC.out w' hBw
                exact ⟨rfl, q3, q4, q5⟩
              have zz : wc.drew.cell? ⟨(a.add (j * 4)).block, (a.add (j * 4)).off + 1, none⟩ = some (.int .i64 yc) ∧ wc.drew.cell? ⟨(a.add (j * 4)).block, (a.add (j * 4)).off + 2, none⟩ = some (.int .u32 yg) := ⟨z1, z2⟩
              have HTT := Lib.hid (HTk.out _ rfl)
              clear H1 H3 HS2 HTk z1 z2
              have hte := HT.out
              clear HT
              have HTE := Lib.hid hte
              clear hte
              generalize takeE s yc = te at *
              generalize has s yc = hs at *
              generalize isC yc = kn at *
              generalize s.length = sl at *
              go_wp2_with fail
              go_region_held3 (fun W' => W'.cell? ⟨(a.add (j * 4)).block, (a.add (j * 4)).off + 1, none⟩ = some (.int .i64 yc) ∧ W'.cell? ⟨(a.add (j * 4)).block, (a.add (j * 4)).off + 2, none⟩ = some (.int .u32 yg)) (first | exact zz | exact ⟨h6, h7⟩) (first | (go_at_call 9; (with_reducible refine HTT.out.mono ?_); rintro e w9 ⟨rfl, h5, h6, h7⟩))
              have HF := Lib.hid h5
              have hte := HTE.out
              clear h5 h6 h7 HTE HTT zz
              cases kn with
              | false =>
                simp only [Bool.false_and] at hte
                go_wp2
                go_meet
                exact HF.out
              | true =>
                cases hs with
                | true =>
                  simp only [Bool.true_and, Bool.not_true, Bool.false_and] at hte
                  go_wp2
                  go_meet
                  exact HF.out
                | false =>
                  simp only [Bool.true_and, Bool.not_false] at hte
                  by_cases hdl : (sl : Int) < 16
                  · have d3 : decide ((sl : Int) < 16) = true := decide_eq_true hdl
                    rw [d3] at hte
                    go_wp2
                    go_meet
                    exact HF.out
                  · have d3 : decide ((sl : Int) < 16) = false := decide_eq_false hdl
                    rw [d3] at hte
                    go_wp2
                    go_meet
                    exact HF.out
          case rest =>
            obtain ⟨s3, h1, _, h3, rfl⟩ := hcut
            rename World => wc
            have HA3 := Lib.hid (all_any (.inr ⟨b, rfl, h1⟩))
            have hok := h1.1
            have H1 := Lib.hid h1
            have H3 := Lib.hid h3
            clear h1 h3 z0 z1 z2 HT HS2 HC
            go_wp2_with fail
            refine HA3.out.mono ?_
            rintro e W5 ⟨v5, rfl, hr5, hb5⟩
            have hI := IsM.of_row hr5
            obtain ⟨A5, cap5, rfl⟩ := row_isM hr5
            have h3 := H3.out.trans (hb5.mono H3.out.size)
            have h1 := H1.out.below hb5
            have HCL : Hid (∀ q, CL w b (fun _ => True) (W5.drewN q)) := fun q => ⟨s3, h1.below (bel_drewN (Below.refl _ _) q), h2, bel_drewN h3 q, trivial⟩
            have HCe : Hid (∀ q k, k < s3.length → ∃ g, A5 = some ⟨g, 0, none⟩ ∧ (W5.drewN q).cell? ⟨g, k * 2, none⟩ = some (.int .i64 (s3.getD k c0).c)) := by
              intro q k hk
              obtain ⟨a9, c9, e9, h9⟩ := hI
              cases e9
              obtain ⟨g, e, q0, _⟩ := h9 k hk
              exact ⟨g, e, q0⟩
            have HRi : Hid (∀ k, k + 1 < s3.length → decide ((s3.getD (k + 1) c0).c ≤ (s3.getD k c0).c) = false) := by
              intro k hk
              have := ris_lt hok.ris (Nat.lt_add_one k) hk
              exact decide_eq_false (by omega)
            have hn16 := hok.len
            clear hr5 hb5 hI h1 h3 HA3 hok H1 H3 hs16
            generalize s3.length = n at *
            have d5 : decide ((16 : Int) < (n : Int)) = false := by simp; omega
            go_wp2
            go_loopw [105] (fun u wr => ∃ k : Nat, k ≤ n ∧ u = .int .i64 (k : Int) ∧ ∃ q, wr = W5.drewN q) (fun u _ => n - (intOf u).toNat)
            case atStart => exact ⟨0, Nat.zero_le _, rfl, 0, rfl⟩
            case round =>
              rename World => wr6
              obtain ⟨k, hk, rfl, q, rfl⟩ := hrel
              by_cases hkn : k < n
              · have d6 : decide ((k : Int) < (n : Int)) = true := by simp; omega
                have HDr : Hid (∀ m, ∃ p, (W5.drewN q).drewN m = W5.drewN p) := fun m => ⟨q + m, by simp [World.drewN, Nat.add_assoc]⟩
                cases k with
                | zero =>
                  have d7 : decide ((0 : Int) < ((0 : Nat) : Int)) = false := by simp
                  clear HCe HRi
                  generalize W5.drewN q = wq at *
                  go_wp2_with fail
                  go_region
                  go_wp2
                  go_roundw
                  case rel => exact ⟨1, by omega, rfl, HDr.out 1⟩
                  case measure => simp [intOf]; omega
                | succ k =>
                  have d7 : decide ((0 : Int) < ((k + 1 : Nat) : Int)) = true := by simp
                  obtain ⟨g, rfl, q1⟩ := HCe.out q (k + 1) hkn
                  obtain ⟨g', e', q0⟩ := HCe.out q k (by omega)
                  cases e'
                  have hri := HRi.out k hkn
                  have ew : IntKind.i64.wrap (((k + 1 : Nat) : Int) - 1) = (k : Int) := by rw [IntWalk.i64_in _ (by omega)]; omega
                  have ew2 : IntKind.i64.wrap ((k : Int) + 1 - 1) = (k : Int) := by rw [IntWalk.i64_in _ (by omega)]; omega
                  have ew3 : IntKind.i64.wrap (k : Int) = (k : Int) := IntWalk.i64_in _ (by omega)
                  have k4 : (0 : Int) ≤ (k : Int) + 1 := by omega
                  have k5 : (k : Int) + 1 < (n : Int) := by omega
                  have d8 : decide ((0 : Int) < (k : Int) + 1) = true := decide_eq_true (by omega)
                  have k0 : (0 : Int) ≤ (k : Int) := by omega
                  have k1 : (k : Int) < (n : Int) := by omega
                  have k2 : (0 : Int) ≤ ((k + 1 : Nat) : Int) := by omega
                  have k3 : ((k + 1 : Nat) : Int) < (n : Int) := by omega
                  clear HCe HRi
                  generalize (s3.getD (k + 1) c0).c = x1 at *
                  generalize (s3.getD k c0).c = x0 at *
                  generalize W5.drewN q = wq at *
                  have zz : wq.drew.cell? ⟨g, (k + 1) * 2, none⟩ = some (.int .i64 x1) ∧ wq.drew.cell? ⟨g, k * 2, none⟩ = some (.int .i64 x0) := ⟨q1, q0⟩
                  go_wp2_with fail
                  go_region_held3 (fun W' => W'.cell? ⟨g, (k + 1) * 2, none⟩ = some (.int .i64 x1) ∧ W'.cell? ⟨g, k * 2, none⟩ = some (.int .i64 x0)) (first | exact zz) (fail)
                  go_wp2
                  go_roundw
                  case rel => exact ⟨k + 1 + 1, by omega, by push_cast; rfl, HDr.out 1⟩
                  case measure => simp [intOf]; omega
              · obtain rfl : k = n := by omega
                have d6 : decide ((k : Int) < (k : Int)) = false := by simp
                have HF := Lib.hid (HCL.out q)
                generalize W5.drewN q = wq at *
                go_wp2
                go_roundw
                case rel => exact ⟨j + 1, by omega, by push_cast; rfl, HF.out⟩
                case measure => simp [intOf]; omega
      · obtain rfl : N = j := by omega
        have d2 : decide ((N : Int) < (N : Int)) = false := by simp
        obtain ⟨s, _, _, h3, _⟩ := hC
        have H3 := Lib.hid h3
        clear h3
        go_wp2
        go_ret
        exact ⟨rfl, H3.out⟩
end Go.Proofs.Ytijhkjegpcmjoaa
