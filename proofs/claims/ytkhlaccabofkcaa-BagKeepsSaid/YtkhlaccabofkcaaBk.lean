/-
  The law BagKeeps.
-/
import Derived.Test.YtkhlaccabofkcaaBk0
namespace Go.Proofs.Ytkhlaccabofkcaa
set_option maxRecDepth 100000
set_option linter.unusedSimpArgs false
open Go Go.RowKit Bg
attribute [local go_sem] Oper.semAt_some

set_option maxHeartbeats 4000000 in
theorem keeps_few {w : World} {A : Option Addr} {l : List Cl} (cap : Nat) (hO : OpsAt w A l) (hl : l.length ≤ maxLen) :
    Calls Try.prog 5 #[.slice A l.length cap] w fun e w' => e = .returned (.bool true) ∧ Below w.heap.size w w' := by
  obtain ⟨P, hP⟩ : ∃ P : Ending → World → Prop, P = fun e w' => e = .returned (.bool true) ∧ Below w.heap.size w w' := ⟨_, rfl⟩
  have HQ : Hid (∀ w', Below w.heap.size w w' → P (.returned (.bool true)) w') := by rw [hP]; exact fun w' h => ⟨rfl, h⟩
  rw [← hP]
  clear hP
  have HO := Lib.hid hO
  have HAL := Lib.hid (alive_any w)
  have HG : Hid (∀ W, Below w.heap.size w W → Calls Try.prog 8 #[.slice A l.length cap] W fun e w' => ((e = .returned (.int .i64 0) ∧ Few l) ∨ e = .returned (.int .i64 1)) ∧ W = w') := fun W h => great_any cap (hO.below h) hl
  obtain ⟨L, hL⟩ : ∃ L, L = l.length := ⟨_, rfl⟩
  have HL := Lib.hid hL
  rw [← hL] at HG ⊢
  clear hO hl hL
  go_enter Try.func5, Try.ntmps5
  go_wp2_with fail
  refine HAL.out.mono ?_
  rintro e w1 ⟨rfl, hb1⟩
  have HB1 := Lib.hid hb1
  clear HAL hb1
  go_wp2_with fail
  refine (HG.out w1 HB1.out).mono ?_
  rintro e w2 ⟨⟨rfl, hf⟩ | rfl, rfl⟩
  · clear HG
    have hL120 : L ≤ 120 := by rw [HL.out]; exact hf.len
    have HF := Lib.hid hf.each
    clear hf
    have HN := Lib.hid (KpI.new HB1.out)
    have hmm := @run_makeMap Try.prog
    go_wp2
    go_loopw [29, 6] (fun i ls wr => ∃ (j : Nat) (b : St), j ≤ L ∧ i = .int .i64 (j : Int) ∧ ls = .int .i64 (b.last : Nat) ∧ KpI w w1.heap.size (w1.heap.size + 1) j wr b) (fun i _ _ => L - (intOf i).toNat)
    case atStart => exact ⟨0, Bg.zero, by omega, rfl, rfl, HN.out⟩
    case round =>
      clear HN hmm
      obtain ⟨j, b, hj, rfl, rfl, hI⟩ := hrel
      by_cases hlt : j < L
      · obtain ⟨g, xm, h1, h2, h3, h4⟩ := hI
        obtain ⟨a, rfl, ⟨c0, c1, c2, c3, c4, c5⟩, hok⟩ := (HO.out.below h1.1) j (by rw [← HL.out]; exact hlt)
        have hfew := HF.out j (by rw [← HL.out]; exact hlt)
        obtain ⟨x, hx⟩ : ∃ x, x = l.getD j default := ⟨_, rfl⟩
        rw [← hx] at c0 c1 c2 c3 c4 c5 hok hfew
        have how := HB1.out.size
        have HBeg : Hid (Beg w wr w1.heap.size (w1.heap.size + 1) j b g xm x) := ⟨h1, h2, h3, h4, hok, hfew.1, fun a ha h0 => by
          obtain ⟨_, _, _, h9⟩ := HO.out j (by rw [← HL.out]; exact hlt)
          rw [← hx] at h9
          exact h9.dat.lt a ha h0, by omega, by omega, how⟩
        clear h1 h2 h3 h4 hok hfew hx how
        have j0 : (0 : Int) ≤ (j : Int) := by omega
        have j1 : (j : Int) < (L : Int) := by omega
        go_upto_block 2 with (fail)
        go_cut [6] (fun ls wx => ∃ b2 : St, ls = .int .i64 (b2.last : Nat) ∧ KpI w w1.heap.size (w1.heap.size + 1) (j + 1) wx b2)
        case first =>
          have K0 : Hid (x.kind = 0 → _) := fun _ => HBeg.out.send
          have K1N : Hid (x.kind = 1 → idx b.l x.n = none → _) := fun _ hi => HBeg.out.delN hi
          have K1S : Hid (x.kind = 1 → ∀ i, idx b.l x.n = some i → _) := fun _ i hi => HBeg.out.delS hi
          have K2 : Hid (x.kind = 2 → _) := fun _ => HBeg.out.drop
          have K3N : Hid (x.kind = 3 → idx b.l x.n = none → _) := fun _ hi => HBeg.out.dblN hi
          have K3F : Hid (x.kind = 3 → ∀ i, idx b.l x.n = some i → comeV b = 0 → _) := fun _ i hi hc => HBeg.out.dblF hi hc
          have K3S : Hid (x.kind = 3 → ∀ i, idx b.l x.n = some i → comeV b ≠ 0 → _) := fun _ i hi hc => HBeg.out.dblS hi hc
          have K4 : Hid (x.kind = 4 → _) := fun _ => HBeg.out.spoil
          have KN := Lib.hid HBeg.out.other
          have HCV := Lib.hid (comeV_new b)
          have HIX : Hid (idx b.l x.n = none ∨ ∃ i, idx b.l x.n = some i) := by
            cases h : idx b.l x.n with
            | none => exact .inl rfl
            | some i => exact .inr ⟨i, rfl⟩
          clear HBeg HB1 HQ HF HL HO
          generalize idx b.l x.n = ix at *
          generalize comeV b = cv at *
          generalize b.last = bl at *
          simp only [opX] at *
          generalize x.kind = kd at *
          generalize x.n = xn at *
          generalize x.at_ = xa at *
          generalize x.v = xv at *
          generalize x.cap = xc at *
          generalize x.A = xA at *
          generalize x.d.length = xl at *
          generalize strN x.d = xs at *
          by_cases e0 : kd = 0
          · subst e0
            have K := Lib.hid (K0.out rfl)
            clear K0 K1N K1S K2 K3N K3F K3S K4 KN
            go_wp2_with fail
            refine K.out.mono ?_
            rintro e w3 ⟨rfl, h3, h4, W4, b2, h5, h6, h7⟩
            have H6 := Lib.hid h6
            have H7 := Lib.hid h7
            clear h6 h7 K
            by_cases ec : cv = 0
            · subst ec
              have h9 : max (bl : Int) 0 = (bl : Int) := by omega
              rw [h9] at H6
              clear h9
              go_wp2
              go_meet
              exact ⟨b2, by rw [H6.out], H7.out⟩
            · have hcv : (bl : Int) < cv := by have := HCV.out; omega
              have h9 : max (bl : Int) cv = cv := by omega
              rw [h9] at H6
              have hle : ¬ cv ≤ (bl : Int) := by omega
              have hH6 := H6
              clear H6 HCV hcv
              go_wp2
              go_meet
              exact ⟨b2, by rw [hH6.out], H7.out⟩
          · have d0 : (kd == 0) = false := by simpa using e0
            by_cases e1 : kd = 1
            · subst e1
              rcases HIX.out with hi | ⟨i, hi⟩
              · have K := Lib.hid (K1N.out rfl hi)
                clear K0 K1N K1S K2 K3N K3F K3S K4 KN HIX HCV
                clear hi
                go_wp2_with fail
                refine K.out.mono ?_
                rintro e w3 ⟨A', cp, rfl, b2, h2, h3⟩
                have H2 := Lib.hid h2
                have H3 := Lib.hid h3
                clear h2 h3 K
                go_wp2
                go_meet
                exact ⟨b2, by rw [H2.out], H3.out _⟩
              · have K := Lib.hid (K1S.out rfl i hi)
                clear K0 K1N K1S K2 K3N K3F K3S K4 KN HIX HCV
                clear hi
                go_wp2_with fail
                refine K.out.mono ?_
                rintro e w3 ⟨y, A', cp, sv, b2, rfl, h3, h4⟩
                have H3 := Lib.hid h3
                have H4 := Lib.hid h4
                clear h3 h4 K
                obtain ⟨n1, f1, t1, d1, s1⟩ := y
                simp only [flA] at *
                generalize d1.length = L1 at *
                obtain ⟨q1, q2⟩ := H4.out (.cells #[.int .i64 n1, .int .i64 f1, .int .i64 t1, .slice A' L1 cp, .bool s1] 38)
                have HK := Lib.hid q2
                clear q2 H4
                go_wp2_with fail
                refine HK.out.mono ?_
                rintro e w4 ⟨rfl, h5⟩
                have H5 := Lib.hid h5
                clear h5 HK q1
                go_wp2
                go_meet
                exact ⟨b2, by rw [H3.out], H5.out⟩
            · have d1 : (kd == 1) = false := by simpa using e1
              by_cases e2 : kd = 2
              · subst e2
                have K := Lib.hid (K2.out rfl)
                clear K0 K1N K1S K2 K3N K3F K3S K4 KN HIX HCV
                go_wp2_with fail
                refine K.out.mono ?_
                rintro e w3 ⟨⟨v, rfl⟩, b2, h3, h4⟩
                have H3 := Lib.hid h3
                have H4 := Lib.hid h4
                clear h3 h4 K
                go_wp2
                go_meet
                exact ⟨b2, by rw [H3.out], H4.out⟩
              · have d2 : (kd == 2) = false := by simpa using e2
                by_cases e3 : kd = 3
                · subst e3
                  rcases HIX.out with hi | ⟨i, hi⟩
                  · have K := Lib.hid (K3N.out rfl hi)
                    clear K0 K1N K1S K2 K3N K3F K3S K4 KN HIX HCV
                    clear hi
                    go_wp2_with fail
                    refine K.out.mono ?_
                    rintro e w3 ⟨rfl, b2, h2, h3⟩
                    have H2 := Lib.hid h2
                    have H3 := Lib.hid h3
                    clear h2 h3 K
                    go_wp2
                    go_meet
                    exact ⟨b2, by rw [H2.out], H3.out⟩
                  · by_cases ec : cv = 0
                    · have K := Lib.hid (K3F.out rfl i hi ec)
                      clear K0 K1N K1S K2 K3N K3F K3S K4 KN HIX HCV
                      clear hi
                      subst ec
                      go_wp2_with fail
                      refine K.out.mono ?_
                      rintro e w3 ⟨rfl, b2, h2, h3⟩
                      have H2 := Lib.hid h2
                      have H3 := Lib.hid h3
                      clear h2 h3 K
                      go_wp2
                      go_meet
                      exact ⟨b2, by rw [H2.out], H3.out⟩
                    · have K := Lib.hid (K3S.out rfl i hi ec)
                      have hcv : (bl : Int) < cv := by have := HCV.out; omega
                      have hle : ¬ cv ≤ (bl : Int) := by omega
                      clear K0 K1N K1S K2 K3N K3F K3S K4 KN HIX HCV
                      clear hi hcv
                      go_wp2_with fail
                      refine K.out.mono ?_
                      rintro e w3 ⟨rfl, h2, sv, h3, W4, b2, h5, h6, h7⟩
                      have H6 := Lib.hid h6
                      have H7 := Lib.hid h7
                      clear h6 h7 K
                      go_wp2
                      go_meet
                      exact ⟨b2, by rw [H6.out], H7.out⟩
                · have d3 : (kd == 3) = false := by simpa using e3
                  by_cases e4 : kd = 4
                  · subst e4
                    have K := Lib.hid (K4.out rfl)
                    clear K0 K1N K1S K2 K3N K3F K3S K4 KN HIX HCV
                    go_wp2_with fail
                    refine K.out.mono ?_
                    rintro e w3 ⟨⟨v, rfl⟩, b2, h3, h4⟩
                    have H3 := Lib.hid h3
                    have H4 := Lib.hid h4
                    clear h3 h4 K
                    go_wp2
                    go_meet
                    exact ⟨b2, by rw [H3.out], H4.out⟩
                  · have d4 : (kd == 4) = false := by simpa using e4
                    obtain ⟨b2, hb2, hh2⟩ := KN.out
                    have H2 := Lib.hid hb2
                    have HH := Lib.hid hh2
                    clear hb2 hh2
                    clear K0 K1N K1S K2 K3N K3F K3S K4 KN HIX HCV
                    go_wp2
                    go_meet
                    exact ⟨b2, by rw [H2.out], HH.out⟩
        case rest =>
          clear HBeg c0 c1 c2 c3 c4 c5
          obtain ⟨b2, rfl, hI2⟩ := hcut
          have HC : Hid (Calls Try.prog 16 #[.pointer (some ⟨w1.heap.size, 0, none⟩)] wc fun e w' => e = .returned (ctA b2.c) ∧ ∀ Y, Calls Try.prog 15 #[.pointer (some ⟨w1.heap.size, 0, none⟩)] (w'.alloc Y).drew (fun e W => e = .returned (.int .i64 (b2.l.length : Nat)) ∧ (w'.alloc Y).drew = W) ∧ KpI w w1.heap.size (w1.heap.size + 1) (j + 1) (w'.alloc Y).drew b2) := by
            have hh := hI2
            obtain ⟨g2, x2, h1, h2, h3, h4⟩ := hI2
            refine (onf_count h1).mono ?_
            rintro e w' ⟨rfl, h5⟩
            refine ⟨rfl, fun Y => ?_⟩
            have h6 : Below w'.heap.size w' (w'.alloc Y).drew := ((Below.refl _ w').alloc (Nat.le_refl _) Y).drew
            have h7 := h5.later h6
            exact ⟨onf_len h7, g2, x2, h7, h2.obj (h1.obj (_, x2) (by simp)) (h7.obj (_, x2) (by simp)), h3, h4⟩
          have HBA : Hid (b2.c.sent + b2.c.dbl = b2.l.length + b2.c.del + b2.c.drp + b2.c.lost ∧ b2.c.sent ≤ 400 ∧ b2.c.dbl ≤ 400) := by
            obtain ⟨g2, x2, h1, h2, h3, h4⟩ := hI2
            have := h3.sent
            have := h3.dbl
            exact ⟨h4.bal, by omega, by omega⟩
          clear hI2
          simp only [ctA] at HC
          obtain ⟨hba, hb1, hb2⟩ := HBA.out
          clear HBA
          generalize b2.l.length = bn at *
          generalize b2.c.sent = cs at *
          generalize b2.c.dbl = cb at *
          generalize b2.c.del = cd at *
          generalize b2.c.drp = cp at *
          generalize b2.c.spt = cq at *
          generalize b2.c.lost = ct at *
          go_wp2_with fail
          refine HC.out.mono ?_
          rintro e w4 ⟨rfl, h9⟩
          have H9 := Lib.hid (h9 (.cells #[.int .i64 (cs : Nat), .int .i64 (cd : Nat), .int .i64 (cp : Nat), .int .i64 (cb : Nat), .int .i64 (cq : Nat), .int .i64 (ct : Nat)] 27))
          clear h9 HC
          have e1 : (IntKind.i64.wrap (IntKind.i64.wrap (IntKind.i64.wrap (IntKind.i64.wrap ((cs : Int) + (cb : Int)) - (cd : Int)) - (cp : Int)) - (ct : Int)) != (bn : Int)) = false := by
            rw [IntWalk.i64_in ((cs : Int) + (cb : Int)) (by omega), IntWalk.i64_in ((cs : Int) + (cb : Int) - (cd : Int)) (by omega), IntWalk.i64_in ((cs : Int) + (cb : Int) - (cd : Int) - (cp : Int)) (by omega), IntWalk.i64_in ((cs : Int) + (cb : Int) - (cd : Int) - (cp : Int) - (ct : Int)) (by omega)]
            have : (cs : Int) + (cb : Int) - (cd : Int) - (cp : Int) - (ct : Int) = (bn : Int) := by omega
            simp [this]
          have HE := Lib.hid e1
          clear e1
          obtain ⟨HLc0, HK0⟩ := H9.out
          have HLc := Lib.hid HLc0
          have HK := Lib.hid HK0
          clear H9 HLc0 HK0
          have hobj : (w4.alloc (.cells #[.int .i64 (cs : Nat), .int .i64 (cd : Nat), .int .i64 (cp : Nat), .int .i64 (cb : Nat), .int .i64 (cq : Nat), .int .i64 (ct : Nat)] 27)).drew.heap[w4.heap.size]? = some (.cells #[.int .i64 (cs : Nat), .int .i64 (cd : Nat), .int .i64 (cp : Nat), .int .i64 (cb : Nat), .int .i64 (cq : Nat), .int .i64 (ct : Nat)] 27) := World.alloc_heap_new w4 _
          have z0 : (w4.alloc (.cells #[.int .i64 (cs : Nat), .int .i64 (cd : Nat), .int .i64 (cp : Nat), .int .i64 (cb : Nat), .int .i64 (cq : Nat), .int .i64 (ct : Nat)] 27)).drew.cell? ⟨w4.heap.size, 0, none⟩ = some (.int .i64 (cs : Nat)) := by rw [blk_cell hobj]; rfl
          have z1 : (w4.alloc (.cells #[.int .i64 (cs : Nat), .int .i64 (cd : Nat), .int .i64 (cp : Nat), .int .i64 (cb : Nat), .int .i64 (cq : Nat), .int .i64 (ct : Nat)] 27)).drew.cell? ⟨w4.heap.size, 1, none⟩ = some (.int .i64 (cd : Nat)) := by rw [blk_cell hobj]; rfl
          have z2 : (w4.alloc (.cells #[.int .i64 (cs : Nat), .int .i64 (cd : Nat), .int .i64 (cp : Nat), .int .i64 (cb : Nat), .int .i64 (cq : Nat), .int .i64 (ct : Nat)] 27)).drew.cell? ⟨w4.heap.size, 2, none⟩ = some (.int .i64 (cp : Nat)) := by rw [blk_cell hobj]; rfl
          have z3 : (w4.alloc (.cells #[.int .i64 (cs : Nat), .int .i64 (cd : Nat), .int .i64 (cp : Nat), .int .i64 (cb : Nat), .int .i64 (cq : Nat), .int .i64 (ct : Nat)] 27)).drew.cell? ⟨w4.heap.size, 3, none⟩ = some (.int .i64 (cb : Nat)) := by rw [blk_cell hobj]; rfl
          have z5 : (w4.alloc (.cells #[.int .i64 (cs : Nat), .int .i64 (cd : Nat), .int .i64 (cp : Nat), .int .i64 (cb : Nat), .int .i64 (cq : Nat), .int .i64 (ct : Nat)] 27)).drew.cell? ⟨w4.heap.size, 5, none⟩ = some (.int .i64 (ct : Nat)) := by rw [blk_cell hobj]; rfl
          clear hobj
          have e1 := HE.out
          clear HE
          go_wp2_with fail
          go_region_held3 (fun W => W = (w4.alloc (.cells #[.int .i64 (cs : Nat), .int .i64 (cd : Nat), .int .i64 (cp : Nat), .int .i64 (cb : Nat), .int .i64 (cq : Nat), .int .i64 (ct : Nat)] 27)).drew) (first | rfl) (first | (go_at_call 15; (with_reducible refine HLc.out.mono ?_); rintro e w9 ⟨rfl, rfl⟩))
          clear z0 z1 z2 z3 z5 e1 HLc
          go_wp2
          go_roundw
          case rel => exact ⟨j + 1, b2, by omega, by go_num, rfl, HK.out⟩
          case measure => simp [intOf]; omega
      · obtain rfl : j = L := by omega
        obtain ⟨g2, x2, h1, h2, h3, h4⟩ := hI
        have HAll := Lib.hid (onf_all h1 h3)
        have HSn := Lib.hid h2
        have H2 := Lib.hid h3
        have H3 := Lib.hid h4
        have HX := Lib.hid h1
        have HN256 := h3.len
        clear h1 h2 h3 h4 HF
        go_wp2_with fail
        refine HAll.out.mono ?_
        rintro e w3 ⟨hall, h1'⟩
        obtain ⟨A2, cap2, rfl, hq, hcap, hmx, hb3⟩ := hall.q
        have HQQ := Lib.hid hq
        have HX3 := Lib.hid h1'
        clear hall hq h1' hb3 HAll
        have HKE : Hid (∀ q, q < b.l.length → ∀ W, Below w3.heap.size w3 W → ∃ A c sv, (∃ gg, A2 = some ⟨gg, 0, none⟩ ∧ W.cell? ⟨gg, q * 5, none⟩ = some (.int .i64 (b.l.getD q noFl).n) ∧ W.cell? ⟨gg, q * 5 + 1, none⟩ = some (.int .i64 (b.l.getD q noFl).f) ∧ W.cell? ⟨gg, q * 5 + 2, none⟩ = some (.int .i64 (b.l.getD q noFl).t) ∧ W.cell? ⟨gg, q * 5 + 3, none⟩ = some (.slice A (b.l.getD q noFl).d.length c) ∧ W.cell? ⟨gg, q * 5 + 4, none⟩ = some (.bool (b.l.getD q noFl).s)) ∧
            ∀ Y, (Instr.lookup 57 (.map (some (w1.heap.size + 1))) (.int .i64 (b.l.getD q noFl).n) false).run Try.prog (W.alloc Y) = .ok (.string sv) (W.alloc Y) ∧ Calls Try.prog 23 #[flA (b.l.getD q noFl) (.slice A (b.l.getD q noFl).d.length c), .string sv] (W.alloc Y) fun e W2 => e = .returned (.bool true) ∧ Below w3.heap.size w3 W2) := fun q hq W hW => by
          obtain ⟨gg, rfl, hQ⟩ := HQQ.out (by omega)
          obtain ⟨⟨z0, z1, z2, z4⟩, Aq, cq, z3, hBy⟩ := (hQ.below hW).cells q hq
          have hle := H3.out.srt.le _ (by rw [List.getD_eq_getElem?_getD, List.getElem?_eq_getElem hq]; exact List.getElem_mem hq : b.l.getD q noFl ∈ b.l)
          have hlb := H2.out.last
          have hat := H2.out.at_ hq
          refine ⟨Aq, cq, strN (g2 (b.l.getD q noFl).n), ⟨gg, rfl, z0, z1, z2, z3, z4⟩, fun Y => ⟨?_, ?_⟩⟩
          · refine Sen.look (((HSn.out.obj (HX.out.obj (_, x2) (by simp)) (HX3.out.obj (_, x2) (by simp))).kept (hW.block _ (blk_lt (HX3.out.obj (_, x2) (by simp))))).kept ?_) (key_wf (by omega) (by omega))
            have h0 := HX3.out.later hW
            exact Below.heap_alloc _ _ _ (blk_lt (h0.obj (_, x2) (by simp)))
          · have hb : Below W.heap.size W (W.alloc Y) := (Below.refl _ W).alloc (Nat.le_refl _) Y
            refine (kept_any cq (hBy.below hb) hat.2 (H3.out.few _).2 hat.1 (H3.out.get hq)).mono ?_
            rintro e W2 ⟨rfl, hb2⟩
            exact ⟨rfl, hW.trans ((hb.trans (hb2.mono hb.size)).mono hW.size)⟩
        have HEnd : Hid (∀ W, Below w3.heap.size w3 W → Calls Try.prog 12 #[.pointer (some ⟨w1.heap.size, 0, none⟩)] W fun e w5 => ∃ A5 c5, e = .returned (.slice A5 b.l.length c5) ∧ Calls Try.prog 12 #[.pointer (some ⟨w1.heap.size, 0, none⟩)] w5 fun e w6 => ∃ A6 c6, e = .returned (.slice A6 b.l.length c6) ∧ Calls Try.prog 14 #[.slice A5 b.l.length c5, .slice A6 b.l.length c6] w6 fun e w7 => e = .returned (.bool true) ∧ Below w.heap.size w w7) := fun W hW => by
          have h0 := HX3.out.later hW
          have hlt : ∀ x ∈ b.l, ∀ c ∈ x.d, c < 256 := fun x hx => (H2.out.dat x hx).2
          refine (onf_all h0 H2.out).mono ?_
          rintro e w5 ⟨p1, p2⟩
          obtain ⟨A5, c5, rfl, p3, p4, _, p5⟩ := p1.q
          refine ⟨A5, c5, rfl, (onf_all p2 H2.out).mono ?_⟩
          rintro e w6 ⟨r1, r2⟩
          obtain ⟨A6, c6, rfl, r3, r4, _, r5⟩ := r1.q
          refine ⟨A6, c6, rfl, (rall_any (AllL.below ⟨p3, p4, HN256, hlt⟩ r5) ⟨r3, r4, HN256, hlt⟩).mono ?_⟩
          rintro e w7 ⟨rfl, s2⟩
          exact ⟨by rw [decide_eq_true rfl], r2.1.trans (s2.mono r2.1.size)⟩
        clear HQQ HX3 HX H2 H3 HSn
        obtain ⟨N, hN⟩ : ∃ N, N = b.l.length := ⟨_, rfl⟩
        rw [← hN] at hcap HN256 HEnd HKE ⊢
        clear hN
        have hN9 : N ≤ 9223372036854775807 := by omega
        generalize b.l = bl at *
        generalize b.last = bla at *
        go_wp2
        go_loopw [139] (fun i wx => ∃ q : Nat, q ≤ N ∧ i = .int .i64 (q : Int) ∧ Below w3.heap.size w3 wx) (fun i _ => N - (intOf i).toNat)
        case atStart => exact ⟨0, by omega, rfl, Below.refl _ _⟩
        case round =>
          obtain ⟨q, hqN, rfl, hbx⟩ := hrel
          rename World => wx
          by_cases hql : q < N
          · obtain ⟨Aq, cq, sv, ⟨gg, rfl, z0, z1, z2, z3, z4⟩, hY⟩ := HKE.out q hql wx hbx
            have HBx := Lib.hid hbx
            clear HKE hbx
            generalize bl.getD q noFl = y at *
            obtain ⟨n1, f1, t1, d1, s1⟩ := y
            simp only [flA] at *
            generalize d1.length = L1 at *
            obtain ⟨q1, q2⟩ := hY (.cells #[.int .i64 n1, .int .i64 f1, .int .i64 t1, .slice Aq L1 cq, .bool s1] 38)
            have HK := Lib.hid q2
            clear q2 hY
            have j0 : (0 : Int) ≤ (q : Int) := by omega
            have j1 : (q : Int) < (N : Int) := by omega
            go_wp2_with fail
            refine HK.out.mono ?_
            rintro e w4 ⟨rfl, h5⟩
            have H5 := Lib.hid h5
            clear h5 HK q1 z0 z1 z2 z3 z4
            go_wp2
            go_roundw
            case rel => exact ⟨q + 1, by omega, by go_num, H5.out⟩
            case measure => simp [intOf]; omega
          · obtain rfl : q = N := by omega
            have HE := Lib.hid (HEnd.out wx hbx)
            clear HKE HEnd hbx
            go_wp2_with fail
            refine HE.out.mono ?_
            rintro e w5 ⟨A5, c5, rfl, h5⟩
            have H5 := Lib.hid h5
            clear h5 HE
            go_wp2_with fail
            refine H5.out.mono ?_
            rintro e w6 ⟨A6, c6, rfl, h6⟩
            have H6 := Lib.hid h6
            clear h6 H5
            go_wp2_with fail
            refine H6.out.mono ?_
            rintro e w7 ⟨rfl, h7⟩
            have HF2 := Lib.hid (HQ.out _ h7)
            clear h7 H6
            go_wp2
            first | exact HF2.out | (go_ret; exact HF2.out)
  · have HF2 := Lib.hid (HQ.out _ HB1.out)
    go_wp2
    first | exact HF2.out | (go_ret; exact HF2.out)
end Go.Proofs.Ytkhlaccabofkcaa
