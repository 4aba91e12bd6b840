/-
  The law BagRefuses.
-/
import Derived.Test.YtinihggcibghaaaBo0
import Derived.Test.YtinihggcibghaaaTk
import Derived.Deep.DeepCutAuto
import Derived.Deep.CutBlock
import Derived.Deep.RegionHeld3
namespace Go.Proofs.Ytinihggcibghaaa
set_option maxRecDepth 100000
set_option linter.unusedSimpArgs false
open Go Go.RowKit Bg
attribute [local go_sem] Oper.semAt_some

set_option maxHeartbeats 4000000 in
theorem refuses_few {w : World} {A : Option Addr} {l : List Cl} {x : Cl} (cap : Nat) (hO : OpsAt w A l) (hl : l.length ≤ maxLen) (hx : OpOk w x) :
    Calls Try.prog 4 #[.slice A l.length cap, opA x] w fun e w' => e = .returned (.bool true) ∧ Below w.heap.size w w' := by
  obtain ⟨P, hP⟩ : ∃ P : Ending → World → Prop, P = fun e w' => e = .returned (.bool true) ∧ Below w.heap.size w w' := ⟨_, rfl⟩
  have HQ : Hid (∀ w', Below w.heap.size w w' → P (.returned (.bool true)) w') := by rw [hP]; exact fun w' h => ⟨rfl, h⟩
  rw [← hP]
  clear hP
  have HO := Lib.hid hO
  have HOX := Lib.hid hx
  have HAL : Hid (Calls Try.prog 19 #[] (w.alloc (opX x)) fun e w' => e = .returned (.bool true) ∧ Below w.heap.size w w' ∧ w'.heap[w.heap.size]? = some (opX x)) := (alive_any (w.alloc (opX x))).mono (by
    rintro e w' ⟨rfl, h⟩
    exact ⟨rfl, ((Below.refl _ w).alloc (Nat.le_refl _) _).trans (h.mono (by simp)), (h.block _ (by simp)).trans (World.alloc_heap_new w _)⟩)
  have HG : Hid (∀ W, Below w.heap.size w W → Calls Try.prog 10 #[.slice A l.length cap] W fun e w' => ((e = .returned (.int .i64 0) ∧ Few l) ∨ e = .returned (.int .i64 1)) ∧ W = w') := fun W h => great_any cap (hO.below h) hl
  obtain ⟨L, hL⟩ : ∃ L, L = l.length := ⟨_, rfl⟩
  have HL := Lib.hid hL
  rw [← hL] at HG ⊢
  clear hO hl hL hx
  simp only [opA]
  go_enter Try.func4, Try.ntmps4
  go_wp2_with fail
  refine HAL.out.mono ?_
  rintro e w1 ⟨rfl, hb1, hbx⟩
  have HB1 := Lib.hid hb1
  have HBX := Lib.hid hbx
  obtain ⟨c0, c1, c2, c3, c4, c5⟩ := opX_cells hbx
  have HF1 := Lib.hid (HQ.out _ hb1)
  clear HAL hb1 hbx
  go_wp2_with fail
  refine (HG.out w1 HB1.out).mono ?_
  rintro e w2 ⟨⟨rfl, hf⟩ | rfl, rfl⟩
  · clear HG
    have hL120 : L ≤ 120 := by rw [HL.out]; exact hf.len
    have HF := Lib.hid hf.each
    clear hf
    by_cases h60 : 60 < x.d.length
    · have d1 : (60 : Int) < (x.d.length : Int) := by omega
      clear HF HL HO
      generalize x.d.length = DL at *
      go_wp2
      first | exact HF1.out | (go_ret; exact HF1.out)
    · have d1 : ¬ (60 : Int) < (x.d.length : Int) := by omega
      by_cases h0 : x.kind = 0
      · rw [h0] at c0
        clear HF HL HO
        generalize x.d.length = DL at *
        go_wp2
        first | exact HF1.out | (go_ret; exact HF1.out)
      · have d0 : (x.kind == 0) = false := by simpa using h0
        have HN : Hid (RfI w w1 w1.heap.size (w1.heap.size + 1) 0 ((w1.alloc (.cells #[.slice none 0 0, .int .i64 0, .int .i64 0, .int .i64 0, .int .i64 0, .int .i64 0, .int .i64 0, .int .i64 0] 29)).alloc (.cells #[.slice none 0 0, .int .i64 0, .int .i64 0, .int .i64 0, .int .i64 0, .int .i64 0, .int .i64 0, .int .i64 0] 32))) := ⟨zero, Two.new w w1 HB1.out _ (fun k hk => by rw [hk]; exact blk_lt HBX.out), Bd.zero _, Srt.zero⟩
        have H0 := Lib.hid h0
        have H60 := Lib.hid h60
        have hDL : ¬ (60 : Int) < (x.d.length : Int) := d1
        clear h0 h60
        go_wp2
        go_loopw [41] (fun i wr => ∃ j : Nat, j ≤ L ∧ i = .int .i64 (j : Int) ∧ RfI w w1 w1.heap.size (w1.heap.size + 1) j wr) (fun i _ => L - (intOf i).toNat)
        case atStart => exact ⟨0, by omega, rfl, HN.out⟩
        case round =>
          clear HN
          obtain ⟨j, hj, rfl, hI⟩ := hrel
          by_cases hlt : j < L
          · obtain ⟨b, h1, h2, h3⟩ := hI
            have hok0 : OpOk w (l.getD j default) := by
              obtain ⟨_, _, _, h9⟩ := HO.out j (by rw [← HL.out]; exact hlt)
              exact h9
            obtain ⟨a, rfl, ⟨c0', c1', c2', c3', c4', c5'⟩, _⟩ := (HO.out.below h1.1) j (by rw [← HL.out]; exact hlt)
            have hfew := HF.out j (by rw [← HL.out]; exact hlt)
            have HD : Hid (Calls Try.prog 11 #[.pointer (some ⟨w1.heap.size, 0, none⟩), .pointer (some ⟨w1.heap.size + 1, 0, none⟩), opA (l.getD j default)] wr fun e w' => e = .returned (.bool true) ∧ RfI w w1 w1.heap.size (w1.heap.size + 1) (j + 1) w') :=
              (do_any h1 h2 (by omega) hok0 hfew).mono (by
                rintro e w' ⟨rfl, h4⟩
                exact ⟨rfl, _, h4, (h2.doS _ hfew.1 hok0.lt hok0.v hfew.2).mono (by omega), h3.doS _⟩)
            clear h1 h2 h3 hok0 hfew c0 c1 c2 c3 c4 c5
            simp only [opA] at HD
            generalize l.getD j default = y at *
            have j0 : (0 : Int) ≤ (j : Int) := by omega
            have j1 : (j : Int) < (L : Int) := by omega
            go_wp2_with fail
            refine HD.out.mono ?_
            rintro e w3 ⟨rfl, h4⟩
            have H4 := Lib.hid h4
            clear h4 HD c0' c1' c2' c3' c4' c5'
            go_wp2
            go_roundw
            case rel => exact ⟨j + 1, by omega, by go_num, H4.out⟩
            case measure => simp [intOf]; omega
          · obtain rfl : j = L := by omega
            obtain ⟨b, h1, h2, h3⟩ := hI
            have hbd : Bd 80000 b := h2.mono (by omega)
            have HT := Lib.hid h1
            have HBd := Lib.hid hbd
            have HS := Lib.hid h3
            have HAll := Lib.hid (two1_all h1 hbd)
            clear h1 h2 h3 hbd c0 c1 c2 c3 c4 c5 HF HL
            go_wp2_with fail
            refine HAll.out.mono ?_
            rintro e w3 ⟨v, rfl, ⟨A2, cap2, rfl, hc1, hc2⟩, hTo⟩
            have HCt := Lib.hid (two1_count hTo.two)
            have HTO := Lib.hid hTo
            clear hTo HAll
            go_wp2_with fail
            refine HCt.out.mono ?_
            rintro e w4 ⟨rfl, hb4⟩
            have HMid := Lib.hid (Mid.made HT.out HBd.out HS.out HBX.out HOX.out.v rfl HTO.out hb4)
            have hN256 := HBd.out.len
            clear HCt HTO hb4 HT HBd HS HBX HO
            simp only [ctA]
            obtain ⟨F, hF⟩ : ∃ F : Nat → Prop, F = fun k => k = w.heap.size ∨ wr.heap.size ≤ k ∧ k < w4.heap.size + 1 := ⟨_, rfl⟩
            rw [← hF] at HMid
            clear hF
            obtain ⟨⟨k0, k1, k2, k3, k4, k5⟩, _⟩ := HMid.out.cells (W := w4.alloc (.cells #[.int .i64 (b.c.sent : Nat), .int .i64 (b.c.del : Nat), .int .i64 (b.c.drp : Nat), .int .i64 (b.c.dbl : Nat), .int .i64 (b.c.spt : Nat), .int .i64 (b.c.lost : Nat)] 27)) (fun _ _ => rfl)
            go_upto_block 2 with (fail)
            go_cut [11] (fun ev wx => ev = .int .i64 (eV b x) ∧ Two w w1.heap.size (w1.heap.size + 1) (opS b x) b F (w4.alloc (.cells #[.int .i64 (b.c.sent : Nat), .int .i64 (b.c.del : Nat), .int .i64 (b.c.drp : Nat), .int .i64 (b.c.dbl : Nat), .int .i64 (b.c.spt : Nat), .int .i64 (b.c.lost : Nat)] 27)) wx)
            case first =>
              have K1 : Hid (x.kind = 1 → _) := fun h => HMid.out.del h
              have K2 : Hid (x.kind = 2 → _) := fun h => HMid.out.drop h
              have K3 : Hid (x.kind = 3 → _) := fun h => HMid.out.dbl h
              have K4 : Hid (x.kind = 4 → _) := fun h => HMid.out.spoil h
              have K5 : Hid (x.kind ≠ 1 → x.kind ≠ 2 → x.kind ≠ 3 → x.kind ≠ 4 → _) := fun h1 h2 h3 h4 => HMid.out.other H0.out h1 h2 h3 h4
              clear HMid HF1 HQ H0
              generalize x.kind = kd at *
              by_cases e1 : kd = 1
              · subst e1
                have K := Lib.hid (K1.out rfl)
                clear K1 K2 K3 K4 K5 d0
                generalize x.n = xn at *
                generalize eV b x = ev at *
                generalize x.d.length = DL at *
                go_wp2_with fail
                refine K.out.mono ?_
                rintro e w6 ⟨⟨u, rfl⟩, h6⟩
                have H6 := Lib.hid h6
                clear h6 K
                go_wp2
                go_meet
                exact ⟨rfl, H6.out⟩
              · have d1' : (kd == 1) = false := by simpa using e1
                by_cases e2 : kd = 2
                · subst e2
                  have K := Lib.hid (K2.out rfl)
                  clear K1 K2 K3 K4 K5 d0 e1
                  generalize x.n = xn at *
                  generalize eV b x = ev at *
                  generalize x.d.length = DL at *
                  go_wp2_with fail
                  refine K.out.mono ?_
                  rintro e w6 ⟨rfl, h6⟩
                  have H6 := Lib.hid h6
                  clear h6 K
                  go_wp2
                  go_meet
                  exact ⟨rfl, H6.out⟩
                · have d2' : (kd == 2) = false := by simpa using e2
                  by_cases e3 : kd = 3
                  · subst e3
                    have K := Lib.hid (K3.out rfl)
                    clear K1 K2 K3 K4 K5 d0 e1 e2
                    generalize x.n = xn at *
                    generalize eV b x = ev at *
                    generalize x.d.length = DL at *
                    go_wp2_with fail
                    refine K.out.mono ?_
                    rintro e w6 ⟨⟨u, rfl⟩, h6⟩
                    have H6 := Lib.hid h6
                    clear h6 K
                    go_wp2
                    go_meet
                    exact ⟨rfl, H6.out⟩
                  · have d3' : (kd == 3) = false := by simpa using e3
                    by_cases e4 : kd = 4
                    · subst e4
                      have K := Lib.hid (K4.out rfl)
                      clear K1 K2 K3 K4 K5 d0 e1 e2 e3
                      generalize x.n = xn at *
                      generalize x.at_ = xa at *
                      generalize x.v = xv at *
                      generalize eV b x = ev at *
                      generalize x.d.length = DL at *
                      go_wp2_with fail
                      refine K.out.mono ?_
                      rintro e w6 ⟨rfl, h6⟩
                      have H6 := Lib.hid h6
                      clear h6 K
                      go_wp2
                      go_meet
                      exact ⟨rfl, H6.out⟩
                    · have d4' : (kd == 4) = false := by simpa using e4
                      obtain ⟨h5, h6⟩ := K5.out e1 e2 e3 e4
                      have H5 := Lib.hid h5
                      have H6 := Lib.hid h6
                      clear h5 h6 K1 K2 K3 K4 K5
                      generalize x.d.length = DL at *
                      go_wp2
                      go_meet
                      exact ⟨by rw [H5.out], H6.out⟩
            case rest =>
              obtain ⟨rfl, hTx⟩ := hcut
              have hwc : Below wc.heap.size wc wc.drew := (Below.refl _ wc).drew
              by_cases he : eV b x = 0
              · rw [he]
                have HTX := Lib.hid hTx
                have hb2 : Bd 80002 (opS b x) := HMid.out.bd.op x (by have := H60.out; omega) HOX.out.lt HOX.out.v
                have HB2 := Lib.hid hb2
                obtain ⟨N, hN⟩ : ∃ N, N = b.l.length := ⟨_, rfl⟩
                have HNN := Lib.hid hN
                have hN2 : N ≤ 256 := by omega
                rw [← hN]
                clear hTx hwc he hb2 hN k0 k1 k2 k3 k4 k5 hN256
                generalize x.d.length = DL at *
                go_wp2_with fail
                go_loopw [110] (fun i wr => ∃ j : Nat, j ≤ N ∧ i = .int .i64 (j : Int) ∧ Two w w1.heap.size (w1.heap.size + 1) (opS b x) b F (w4.alloc (.cells #[.int .i64 (b.c.sent : Nat), .int .i64 (b.c.del : Nat), .int .i64 (b.c.drp : Nat), .int .i64 (b.c.dbl : Nat), .int .i64 (b.c.spt : Nat), .int .i64 (b.c.lost : Nat)] 27)) wr) (fun i _ => N - (intOf i).toNat)
                case atStart => exact ⟨0, by omega, rfl, HTX.out⟩
                case round =>
                  clear HTX
                  obtain ⟨q, hq, rfl, hT⟩ := hrel
                  by_cases hlt : q < N
                  · obtain ⟨g, Aq, cq, rfl, hcs, hfind⟩ := HMid.out.each H0.out hT (i := q) (by have := HNN.out; omega) HB2.out
                    have HLT := Lib.hid hlt
                    have HF := Lib.hid hfind
                    have HCS := Lib.hid hcs
                    have HT := Lib.hid hT
                    obtain ⟨⟨z0, z1, z2, z3, z4⟩, zx⟩ := hcs wr (Below.refl _ _)
                    clear hT hfind hcs hq hlt
                    have j0 : (0 : Int) ≤ (q : Int) := by omega
                    have j1 : (q : Int) < (N : Int) := by have := HLT.out; omega
                    generalize b.l.getD q noFl = z at *
                    obtain ⟨zn, zf, zt, zd, zs⟩ := z
                    simp only [flA] at HF HCS z0 z1 z2 z3 z4
                    generalize hxn : x.n = xn at *
                    clear hxn
                    go_wp2_with fail
                    refine HF.out.mono ?_
                    rintro e w7 ⟨⟨yn, yf, yt, yd, ys⟩, A7, c7, is, rfl, hb7, hcond⟩
                    have HCN := Lib.hid hcond
                    have HB7 := Lib.hid hb7
                    clear HF z0 z1 z2 z3 z4 zx hcond hb7
                    simp only [flA] at HCN ⊢
                    generalize hyl : yd.length = YL at *
                    go_wp2_with fail
                    have hnew := World.alloc_heap_new w7 (.cells #[.int .i64 yn, .int .i64 yf, .int .i64 yt, .slice A7 (YL : Nat) c7, .bool ys] 38)
                    have hzl : Hid (zd.length = zd.length) := rfl
                    by_cases hne : zn = xn
                    · subst hne
                      have dne : (zn != zn) = false := by simp
                      generalize zd.length = ZL at *
                      have hV8 : Below w7.heap.size w7 (w7.alloc (.cells #[.int .i64 yn, .int .i64 yf, .int .i64 yt, .slice A7 (YL : Nat) c7, .bool ys] 38)) := (Below.refl _ w7).alloc (Nat.le_refl _) _
                      generalize hV : w7.alloc (.cells #[.int .i64 yn, .int .i64 yf, .int .i64 yt, .slice A7 (YL : Nat) c7, .bool ys] 38) = V8 at *
                      have HW : Hid (∀ W, Below V8.heap.size V8.drew W → Below wr.heap.size wr W) := fun W hW => HB7.out.trans ((hV8.trans (((Below.refl _ V8).drew.trans hW).mono hV8.size)).mono HB7.out.size)
                      have HSC : Hid (∀ W, Below V8.heap.size V8.drew W → (fun W => (W.cell? ⟨g, q * 5, none⟩ = some (.int .i64 zn) ∧ W.cell? ⟨g, q * 5 + 1, none⟩ = some (.int .i64 zf) ∧ W.cell? ⟨g, q * 5 + 2, none⟩ = some (.int .i64 zt) ∧ W.cell? ⟨g, q * 5 + 3, none⟩ = some (.slice Aq (ZL : Nat) cq) ∧ W.cell? ⟨g, q * 5 + 4, none⟩ = some (.bool zs)) ∧ W.cell? ⟨w.heap.size, 1, none⟩ = some (.int .i64 zn) ∧ (W.cell? ⟨w7.heap.size, 0, none⟩ = some (.int .i64 yn) ∧ W.cell? ⟨w7.heap.size, 1, none⟩ = some (.int .i64 yf) ∧ W.cell? ⟨w7.heap.size, 2, none⟩ = some (.int .i64 yt) ∧ W.cell? ⟨w7.heap.size, 3, none⟩ = some (.slice A7 (YL : Nat) c7) ∧ W.cell? ⟨w7.heap.size, 4, none⟩ = some (.bool ys))) W) := fun W hW => by
                        obtain ⟨h1, h2⟩ := HCS.out W (HW.out W hW)
                        have h3 := (five (((((Below.refl _ V8).drew).trans hW).block _ (blk_lt hnew)).trans hnew)).1
                        exact ⟨h1, h2, h3⟩
                      have hs0 := HSC.out V8.drew (Below.refl _ _)
                      have HBE : Hid (Below V8.heap.size V8.drew V8.drew) := Below.refl _ _
                      clear HCS HCN HB7 hV hnew hzl hyl hV8 HSC HMid HB2 HQ HOX
                      refine wp_region_held_drew (S := fun W => (W.cell? ⟨g, q * 5, none⟩ = some (.int .i64 zn) ∧ W.cell? ⟨g, q * 5 + 1, none⟩ = some (.int .i64 zf) ∧ W.cell? ⟨g, q * 5 + 2, none⟩ = some (.int .i64 zt) ∧ W.cell? ⟨g, q * 5 + 3, none⟩ = some (.slice Aq (ZL : Nat) cq) ∧ W.cell? ⟨g, q * 5 + 4, none⟩ = some (.bool zs)) ∧ W.cell? ⟨w.heap.size, 1, none⟩ = some (.int .i64 zn) ∧ (W.cell? ⟨w7.heap.size, 0, none⟩ = some (.int .i64 yn) ∧ W.cell? ⟨w7.heap.size, 1, none⟩ = some (.int .i64 yf) ∧ W.cell? ⟨w7.heap.size, 2, none⟩ = some (.int .i64 yt) ∧ W.cell? ⟨w7.heap.size, 3, none⟩ = some (.slice A7 (YL : Nat) c7) ∧ W.cell? ⟨w7.heap.size, 4, none⟩ = some (.bool ys))) (by kernel_rfl) hs0 (fun hHeld => ?_)
                      simp only [List.size_toArray, List.length_cons, List.length_nil, Nat.reduceAdd, Array.replicate_succ, Array.replicate_zero, List.push_toArray, List.nil_append, List.cons_append, List.append_toArray]
                      refine take_op (i := 0) (v := ?_) rfl (by kernel_rfl) (by kernel_rfl) (by kernel_rfl) (fun _ _ _ h => h) (Or.inl ⟨by rfl, ?_⟩) (by assumption) ?_
                      rotate_left
                      · (intro w' hSw; (try dsimp only at hSw); go_simp; (try with_reducible rfl))
                      (try simp only [Act.put, List.setIfInBounds_toArray, List.set_cons_zero, List.set_cons_succ])
                      refine take_op (i := 1) (v := ?_) rfl (by kernel_rfl) (by kernel_rfl) (by kernel_rfl) (fun _ _ _ h => h) (Or.inl ⟨by rfl, ?_⟩) (by assumption) ?_
                      rotate_left
                      · (intro w' hSw; (try dsimp only at hSw); go_simp; (try with_reducible rfl))
                      (try simp only [Act.put, List.setIfInBounds_toArray, List.set_cons_zero, List.set_cons_succ])
                      refine take_op (i := 2) (v := ?_) rfl (by kernel_rfl) (by kernel_rfl) (by kernel_rfl) (fun _ _ _ h => h) (Or.inl ⟨by rfl, ?_⟩) (by assumption) ?_
                      rotate_left
                      · (intro w' hSw; (try dsimp only at hSw); go_simp; (try with_reducible rfl))
                      (try simp only [Act.put, List.setIfInBounds_toArray, List.set_cons_zero, List.set_cons_succ])
                      refine take_op (i := 3) (v := ?_) rfl (by kernel_rfl) (by kernel_rfl) (by kernel_rfl) (fun _ _ _ h => h) (Or.inl ⟨by rfl, ?_⟩) (by assumption) ?_
                      rotate_left
                      · (intro w' hSw; (try dsimp only at hSw); go_simp; (try with_reducible rfl))
                      (try simp only [Act.put, List.setIfInBounds_toArray, List.set_cons_zero, List.set_cons_succ])
                      refine take_op (i := 4) (v := ?_) rfl (by kernel_rfl) (by kernel_rfl) (by kernel_rfl) (fun _ _ _ h => h) (Or.inl ⟨by rfl, ?_⟩) (by assumption) ?_
                      rotate_left
                      · (intro w' hSw; (try dsimp only at hSw); go_simp; (try with_reducible rfl))
                      (try simp only [Act.put, List.setIfInBounds_toArray, List.set_cons_zero, List.set_cons_succ])
                      refine take_op (i := 5) (v := ?_) rfl (by kernel_rfl) (by kernel_rfl) (by kernel_rfl) (fun _ _ _ h => h) (Or.inl ⟨by rfl, ?_⟩) (by assumption) ?_
                      rotate_left
                      · (intro w' hSw; (try dsimp only at hSw); go_simp; (try with_reducible rfl))
                      (try simp only [Act.put, List.setIfInBounds_toArray, List.set_cons_zero, List.set_cons_succ])
                      refine take_op (i := 6) (v := ?_) rfl (by kernel_rfl) (by kernel_rfl) (by kernel_rfl) (fun _ _ _ h => h) (Or.inl ⟨by rfl, ?_⟩) (by assumption) ?_
                      rotate_left
                      · (intro w' hSw; (try dsimp only at hSw); go_simp; (try with_reducible rfl))
                      (try simp only [Act.put, List.setIfInBounds_toArray, List.set_cons_zero, List.set_cons_succ])
                      refine take_op (i := 7) (v := ?_) rfl (by kernel_rfl) (by kernel_rfl) (by kernel_rfl) (fun _ _ _ h => h) (Or.inl ⟨by rfl, ?_⟩) (by assumption) ?_
                      rotate_left
                      · (intro w' hSw; (try dsimp only at hSw); go_simp; (try with_reducible rfl))
                      (try simp only [Act.put, List.setIfInBounds_toArray, List.set_cons_zero, List.set_cons_succ])
                      refine take_op (i := 8) (v := ?_) rfl (by kernel_rfl) (by kernel_rfl) (by kernel_rfl) (fun _ _ _ h => h) (Or.inl ⟨by rfl, ?_⟩) (by assumption) ?_
                      rotate_left
                      · (intro w' hSw; (try dsimp only at hSw); go_simp; (try with_reducible rfl))
                      (try simp only [Act.put, List.setIfInBounds_toArray, List.set_cons_zero, List.set_cons_succ])
                      refine take_op (i := 9) rfl (by kernel_rfl) (by kernel_rfl) (by kernel_rfl) (fun _ _ _ h => h) (Or.inr ⟨by rfl, rfl⟩) (by assumption) ?_
                      (try simp only [Act.put, List.setIfInBounds_toArray, List.set_cons_zero, List.set_cons_succ])
                      refine take_op (i := 10) rfl (by kernel_rfl) (by kernel_rfl) (by kernel_rfl) (fun _ _ _ h => h) (Or.inr ⟨by rfl, rfl⟩) (by assumption) ?_
                      (try simp only [Act.put, List.setIfInBounds_toArray, List.set_cons_zero, List.set_cons_succ])
                      refine take_op (i := 11) rfl (by kernel_rfl) (by kernel_rfl) (by kernel_rfl) (fun _ _ _ h => h) (Or.inr ⟨by rfl, rfl⟩) (by assumption) ?_
                      (try simp only [Act.put, List.setIfInBounds_toArray, List.set_cons_zero, List.set_cons_succ])
                      refine take_op (i := 12) rfl (by kernel_rfl) (by kernel_rfl) (by kernel_rfl) (fun _ _ _ h => h) (Or.inr ⟨by rfl, rfl⟩) (by assumption) ?_
                      (try simp only [Act.put, List.setIfInBounds_toArray, List.set_cons_zero, List.set_cons_succ])
                      refine take_op (i := 13) rfl (by kernel_rfl) (by kernel_rfl) (by kernel_rfl) (fun _ _ _ h => h) (Or.inr ⟨by rfl, rfl⟩) (by assumption) ?_
                      (try simp only [Act.put, List.setIfInBounds_toArray, List.set_cons_zero, List.set_cons_succ])
                      refine take_op (i := 14) rfl (by kernel_rfl) (by kernel_rfl) (by kernel_rfl) (fun _ _ _ h => h) (Or.inr ⟨by rfl, rfl⟩) (by assumption) ?_
                      (try simp only [Act.put, List.setIfInBounds_toArray, List.set_cons_zero, List.set_cons_succ])
                      refine take_op (i := 15) rfl (by kernel_rfl) (by kernel_rfl) (by kernel_rfl) (fun _ _ _ h => h) (Or.inr ⟨by rfl, rfl⟩) (by assumption) ?_
                      (try simp only [Act.put, List.setIfInBounds_toArray, List.set_cons_zero, List.set_cons_succ])
                      refine take_op (i := 16) rfl (by kernel_rfl) (by kernel_rfl) (by kernel_rfl) (fun _ _ _ h => h) (Or.inr ⟨by rfl, rfl⟩) (by assumption) ?_
                      (try simp only [Act.put, List.setIfInBounds_toArray, List.set_cons_zero, List.set_cons_succ])
                      refine take_op (i := 17) rfl (by kernel_rfl) (by kernel_rfl) (by kernel_rfl) (fun _ _ _ h => h) (Or.inr ⟨by rfl, rfl⟩) (by assumption) ?_
                      (try simp only [Act.put, List.setIfInBounds_toArray, List.set_cons_zero, List.set_cons_succ])
                      refine take_op (i := 18) rfl (by kernel_rfl) (by kernel_rfl) (by kernel_rfl) (fun _ _ _ h => h) (Or.inr ⟨by rfl, rfl⟩) (by assumption) ?_
                      (try simp only [Act.put, List.setIfInBounds_toArray, List.set_cons_zero, List.set_cons_succ])
                      refine take_op (i := 19) rfl (by kernel_rfl) (by kernel_rfl) (by kernel_rfl) (fun _ _ _ h => h) (Or.inr ⟨by rfl, rfl⟩) (by assumption) ?_
                      (try simp only [Act.put, List.setIfInBounds_toArray, List.set_cons_zero, List.set_cons_succ])
                      refine take_op (i := 20) (v := ?_) rfl (by kernel_rfl) (by kernel_rfl) (by kernel_rfl) (fun _ _ _ h => h) (Or.inl ⟨by rfl, ?_⟩) (by assumption) ?_
                      rotate_left
                      · (intro w' hSw; (try dsimp only at hSw); go_simp; (try with_reducible rfl))
                      (try simp only [Act.put, List.setIfInBounds_toArray, List.set_cons_zero, List.set_cons_succ])
                      refine wpAnyH_done (by kernel_rfl) ?_ _
                      clear hs0
                      go_wp2
                      go_roundw
                      case rel => exact ⟨q + 1, HLT.out, by push_cast; rfl, HT.out.later (HW.out _ HBE.out)⟩
                      case measure => have := HLT.out; simp [intOf]; omega
                    · obtain ⟨he, rfl, hsame⟩ := HCN.out hne
                      obtain ⟨rfl, rfl, rfl, rfl, rfl⟩ : yn = zn ∧ yf = zf ∧ yt = zt ∧ yd = zd ∧ ys = zs := by injection he with h1 h2 h3 h4 h5; exact ⟨h1, h2, h3, h4, h5⟩
                      rw [← hyl] at hnew ⊢
                      have HSM := Lib.hid hsame
                      clear hsame he hyl HCN
                      generalize yd.length = ZL at *
                      have dne : (yn != xn) = true := by simpa using hne
                      have hV8 : Below w7.heap.size w7 (w7.alloc (.cells #[.int .i64 yn, .int .i64 yf, .int .i64 yt, .slice A7 (ZL : Nat) c7, .bool ys] 38)) := (Below.refl _ w7).alloc (Nat.le_refl _) _
                      generalize hV : w7.alloc (.cells #[.int .i64 yn, .int .i64 yf, .int .i64 yt, .slice A7 (ZL : Nat) c7, .bool ys] 38) = V8 at *
                      have HW : Hid (∀ W, Below V8.heap.size V8.drew W → Below wr.heap.size wr W) := fun W hW => HB7.out.trans ((hV8.trans (((Below.refl _ V8).drew.trans hW).mono hV8.size)).mono HB7.out.size)
                      have HSC : Hid (∀ W, Below V8.heap.size V8.drew W → (fun W => (W.cell? ⟨g, q * 5, none⟩ = some (.int .i64 yn) ∧ W.cell? ⟨g, q * 5 + 1, none⟩ = some (.int .i64 yf) ∧ W.cell? ⟨g, q * 5 + 2, none⟩ = some (.int .i64 yt) ∧ W.cell? ⟨g, q * 5 + 3, none⟩ = some (.slice Aq (ZL : Nat) cq) ∧ W.cell? ⟨g, q * 5 + 4, none⟩ = some (.bool ys)) ∧ W.cell? ⟨w.heap.size, 1, none⟩ = some (.int .i64 xn) ∧ (W.cell? ⟨w7.heap.size, 0, none⟩ = some (.int .i64 yn) ∧ W.cell? ⟨w7.heap.size, 1, none⟩ = some (.int .i64 yf) ∧ W.cell? ⟨w7.heap.size, 2, none⟩ = some (.int .i64 yt) ∧ W.cell? ⟨w7.heap.size, 3, none⟩ = some (.slice A7 (ZL : Nat) c7) ∧ W.cell? ⟨w7.heap.size, 4, none⟩ = some (.bool ys))) W) := fun W hW => by
                        obtain ⟨h1, h2⟩ := HCS.out W (HW.out W hW)
                        have h3 := (five (((((Below.refl _ V8).drew).trans hW).block _ (blk_lt hnew)).trans hnew)).1
                        exact ⟨h1, h2, h3⟩
                      have hs0 := HSC.out V8.drew (Below.refl _ _)
                      have HSM2 : Hid (∀ W, Below V8.heap.size V8 W → Calls Try.prog 15 #[.agg #[.int .i64 yn, .int .i64 yf, .int .i64 yt, .slice A7 (ZL : Nat) c7, .bool ys], .agg #[.int .i64 yn, .int .i64 yf, .int .i64 yt, .slice Aq (ZL : Nat) cq, .bool ys]] W fun e w8 => e = .returned (.bool true) ∧ Below W.heap.size W w8) := fun W hW => HSM.out W (hV8.trans (hW.mono hV8.size))
                      clear HCS HB7 hV hnew hzl hV8 hne HMid HB2 HQ HOX HSM
                      refine wp_region_held_drew (S := fun W => (W.cell? ⟨g, q * 5, none⟩ = some (.int .i64 yn) ∧ W.cell? ⟨g, q * 5 + 1, none⟩ = some (.int .i64 yf) ∧ W.cell? ⟨g, q * 5 + 2, none⟩ = some (.int .i64 yt) ∧ W.cell? ⟨g, q * 5 + 3, none⟩ = some (.slice Aq (ZL : Nat) cq) ∧ W.cell? ⟨g, q * 5 + 4, none⟩ = some (.bool ys)) ∧ W.cell? ⟨w.heap.size, 1, none⟩ = some (.int .i64 xn) ∧ (W.cell? ⟨w7.heap.size, 0, none⟩ = some (.int .i64 yn) ∧ W.cell? ⟨w7.heap.size, 1, none⟩ = some (.int .i64 yf) ∧ W.cell? ⟨w7.heap.size, 2, none⟩ = some (.int .i64 yt) ∧ W.cell? ⟨w7.heap.size, 3, none⟩ = some (.slice A7 (ZL : Nat) c7) ∧ W.cell? ⟨w7.heap.size, 4, none⟩ = some (.bool ys))) (by kernel_rfl) hs0 (fun hHeld => ?_)
                      simp only [List.size_toArray, List.length_cons, List.length_nil, Nat.reduceAdd, Array.replicate_succ, Array.replicate_zero, List.push_toArray, List.nil_append, List.cons_append, List.append_toArray]
                      refine take_op (i := 0) (v := ?_) rfl (by kernel_rfl) (by kernel_rfl) (by kernel_rfl) (fun _ _ _ h => h) (Or.inl ⟨by rfl, ?_⟩) (by assumption) ?_
                      rotate_left
                      · (intro w' hSw; (try dsimp only at hSw); go_simp; (try with_reducible rfl))
                      (try simp only [Act.put, List.setIfInBounds_toArray, List.set_cons_zero, List.set_cons_succ])
                      refine take_op (i := 1) (v := ?_) rfl (by kernel_rfl) (by kernel_rfl) (by kernel_rfl) (fun _ _ _ h => h) (Or.inl ⟨by rfl, ?_⟩) (by assumption) ?_
                      rotate_left
                      · (intro w' hSw; (try dsimp only at hSw); go_simp; (try with_reducible rfl))
                      (try simp only [Act.put, List.setIfInBounds_toArray, List.set_cons_zero, List.set_cons_succ])
                      refine take_op (i := 2) (v := ?_) rfl (by kernel_rfl) (by kernel_rfl) (by kernel_rfl) (fun _ _ _ h => h) (Or.inl ⟨by rfl, ?_⟩) (by assumption) ?_
                      rotate_left
                      · (intro w' hSw; (try dsimp only at hSw); go_simp; (try with_reducible rfl))
                      (try simp only [Act.put, List.setIfInBounds_toArray, List.set_cons_zero, List.set_cons_succ])
                      refine take_op (i := 3) (v := ?_) rfl (by kernel_rfl) (by kernel_rfl) (by kernel_rfl) (fun _ _ _ h => h) (Or.inl ⟨by rfl, ?_⟩) (by assumption) ?_
                      rotate_left
                      · (intro w' hSw; (try dsimp only at hSw); go_simp; (try with_reducible rfl))
                      (try simp only [Act.put, List.setIfInBounds_toArray, List.set_cons_zero, List.set_cons_succ])
                      refine take_op (i := 4) (v := ?_) rfl (by kernel_rfl) (by kernel_rfl) (by kernel_rfl) (fun _ _ _ h => h) (Or.inl ⟨by rfl, ?_⟩) (by assumption) ?_
                      rotate_left
                      · (intro w' hSw; (try dsimp only at hSw); go_simp; (try with_reducible rfl))
                      (try simp only [Act.put, List.setIfInBounds_toArray, List.set_cons_zero, List.set_cons_succ])
                      refine take_op (i := 5) (v := ?_) rfl (by kernel_rfl) (by kernel_rfl) (by kernel_rfl) (fun _ _ _ h => h) (Or.inl ⟨by rfl, ?_⟩) (by assumption) ?_
                      rotate_left
                      · (intro w' hSw; (try dsimp only at hSw); go_simp; (try with_reducible rfl))
                      (try simp only [Act.put, List.setIfInBounds_toArray, List.set_cons_zero, List.set_cons_succ])
                      refine take_op (i := 6) (v := ?_) rfl (by kernel_rfl) (by kernel_rfl) (by kernel_rfl) (fun _ _ _ h => h) (Or.inl ⟨by rfl, ?_⟩) (by assumption) ?_
                      rotate_left
                      · (intro w' hSw; (try dsimp only at hSw); go_simp; (try with_reducible rfl))
                      (try simp only [Act.put, List.setIfInBounds_toArray, List.set_cons_zero, List.set_cons_succ])
                      refine take_op (i := 7) (v := ?_) rfl (by kernel_rfl) (by kernel_rfl) (by kernel_rfl) (fun _ _ _ h => h) (Or.inl ⟨by rfl, ?_⟩) (by assumption) ?_
                      rotate_left
                      · (intro w' hSw; (try dsimp only at hSw); go_simp; (try with_reducible rfl))
                      (try simp only [Act.put, List.setIfInBounds_toArray, List.set_cons_zero, List.set_cons_succ])
                      refine take_op (i := 8) (v := ?_) rfl (by kernel_rfl) (by kernel_rfl) (by kernel_rfl) (fun _ _ _ h => h) (Or.inl ⟨by rfl, ?_⟩) (by assumption) ?_
                      rotate_left
                      · (intro w' hSw; (try dsimp only at hSw); go_simp; (try with_reducible rfl))
                      (try simp only [Act.put, List.setIfInBounds_toArray, List.set_cons_zero, List.set_cons_succ])
                      refine take_op (i := 9) (v := ?_) rfl (by kernel_rfl) (by kernel_rfl) (by kernel_rfl) (fun _ _ _ h => h) (Or.inl ⟨by rfl, ?_⟩) (by assumption) ?_
                      rotate_left
                      · (intro w' hSw; (try dsimp only at hSw); go_simp; (try with_reducible rfl))
                      (try simp only [Act.put, List.setIfInBounds_toArray, List.set_cons_zero, List.set_cons_succ])
                      refine take_op (i := 10) (v := ?_) rfl (by kernel_rfl) (by kernel_rfl) (by kernel_rfl) (fun _ _ _ h => h) (Or.inl ⟨by rfl, ?_⟩) (by assumption) ?_
                      rotate_left
                      · (intro w' hSw; (try dsimp only at hSw); go_simp; (try with_reducible rfl))
                      (try simp only [Act.put, List.setIfInBounds_toArray, List.set_cons_zero, List.set_cons_succ])
                      refine take_op (i := 11) (v := ?_) rfl (by kernel_rfl) (by kernel_rfl) (by kernel_rfl) (fun _ _ _ h => h) (Or.inl ⟨by rfl, ?_⟩) (by assumption) ?_
                      rotate_left
                      · (intro w' hSw; (try dsimp only at hSw); go_simp; (try with_reducible rfl))
                      (try simp only [Act.put, List.setIfInBounds_toArray, List.set_cons_zero, List.set_cons_succ])
                      refine take_op (i := 12) (v := ?_) rfl (by kernel_rfl) (by kernel_rfl) (by kernel_rfl) (fun _ _ _ h => h) (Or.inl ⟨by rfl, ?_⟩) (by assumption) ?_
                      rotate_left
                      · (intro w' hSw; (try dsimp only at hSw); go_simp; (try with_reducible rfl))
                      (try simp only [Act.put, List.setIfInBounds_toArray, List.set_cons_zero, List.set_cons_succ])
                      refine take_op (i := 13) (v := ?_) rfl (by kernel_rfl) (by kernel_rfl) (by kernel_rfl) (fun _ _ _ h => h) (Or.inl ⟨by rfl, ?_⟩) (by assumption) ?_
                      rotate_left
                      · (intro w' hSw; (try dsimp only at hSw); go_simp; (try with_reducible rfl))
                      (try simp only [Act.put, List.setIfInBounds_toArray, List.set_cons_zero, List.set_cons_succ])
                      refine take_op (i := 14) (v := ?_) rfl (by kernel_rfl) (by kernel_rfl) (by kernel_rfl) (fun _ _ _ h => h) (Or.inl ⟨by rfl, ?_⟩) (by assumption) ?_
                      rotate_left
                      · (intro w' hSw; (try dsimp only at hSw); go_simp; (try with_reducible rfl))
                      (try simp only [Act.put, List.setIfInBounds_toArray, List.set_cons_zero, List.set_cons_succ])
                      refine take_op (i := 15) (v := ?_) rfl (by kernel_rfl) (by kernel_rfl) (by kernel_rfl) (fun _ _ _ h => h) (Or.inl ⟨by rfl, ?_⟩) (by assumption) ?_
                      rotate_left
                      · (intro w' hSw; (try dsimp only at hSw); go_simp; (try with_reducible rfl))
                      (try simp only [Act.put, List.setIfInBounds_toArray, List.set_cons_zero, List.set_cons_succ])
                      refine take_op (i := 16) (v := ?_) rfl (by kernel_rfl) (by kernel_rfl) (by kernel_rfl) (fun _ _ _ h => h) (Or.inl ⟨by rfl, ?_⟩) (by assumption) ?_
                      rotate_left
                      · (intro w' hSw; (try dsimp only at hSw); go_simp; (try with_reducible rfl))
                      (try simp only [Act.put, List.setIfInBounds_toArray, List.set_cons_zero, List.set_cons_succ])
                      refine wpAnyH_ready (rs := [17]) (by kernel_rfl) (by simp) ?_
                      refine cons_op rfl (fun K hK => ?_) AllReadyH.nil
                      go_simp
                      with_reducible refine (HSM2.out _ ((Below.refl _ V8).drew)).mono ?_
                      rintro e w9 ⟨rfl, hb9⟩
                      have hs9 := HSC.out _ hb9
                      (try go_wp2_with fail)
                      refine hK.out _ _ hs9 (fun hHeld => ?_)
                      clear hK K
                      (try simp only [Act.put, List.setIfInBounds_toArray, List.set_cons_zero, List.set_cons_succ])
                      refine take_op (i := 18) (v := ?_) rfl (by kernel_rfl) (by kernel_rfl) (by kernel_rfl) (fun _ _ _ h => h) (Or.inl ⟨by rfl, ?_⟩) (by assumption) ?_
                      rotate_left
                      · (intro w' hSw; (try dsimp only at hSw); go_simp; (try with_reducible rfl))
                      (try simp only [Act.put, List.setIfInBounds_toArray, List.set_cons_zero, List.set_cons_succ])
                      refine take_op (i := 19) (v := ?_) rfl (by kernel_rfl) (by kernel_rfl) (by kernel_rfl) (fun _ _ _ h => h) (Or.inl ⟨by rfl, ?_⟩) (by assumption) ?_
                      rotate_left
                      · (intro w' hSw; (try dsimp only at hSw); go_simp; (try with_reducible rfl))
                      (try simp only [Act.put, List.setIfInBounds_toArray, List.set_cons_zero, List.set_cons_succ])
                      refine take_op (i := 20) (v := ?_) rfl (by kernel_rfl) (by kernel_rfl) (by kernel_rfl) (fun _ _ _ h => h) (Or.inl ⟨by rfl, ?_⟩) (by assumption) ?_
                      rotate_left
                      · (intro w' hSw; (try dsimp only at hSw); go_simp; (try with_reducible rfl))
                      (try simp only [Act.put, List.setIfInBounds_toArray, List.set_cons_zero, List.set_cons_succ])
                      refine wpAnyH_done (by kernel_rfl) ?_ _
                      have HBE := Lib.hid hb9
                      clear hs0 hs9 HSC HSM2 hb9
                      go_wp2
                      go_roundw
                      case rel => exact ⟨q + 1, HLT.out, by push_cast; rfl, HT.out.later (HW.out _ HBE.out)⟩
                      case measure => have := HLT.out; simp [intOf]; omega
                  · obtain rfl : q = N := by omega
                    have HFF := Lib.hid (HQ.out _ hT.1)
                    clear hT HMid HQ
                    go_wp2
                    first | exact HFF.out | (go_ret; exact HFF.out)
              · have hb0 : opS b x = b := refused H0.out he
                rw [hb0] at hTx
                have hT2 := hTx.later hwc
                have HAG := Lib.hid (HMid.out.again hT2)
                have hc0 := (HMid.out.cells (fun k hk => hT2.blk hk)).2
                have d9 : (eV b x != 0) = true := by simp [he]
                generalize eV b x = ev at *
                clear hTx hT2 hwc he hb0 HMid HOX H0 HF1 k0 k1 k2 k3 k4 k5
                generalize x.d.length = DL at *
                generalize b.l.length = N at *
                go_wp2_with fail
                go_region_held3 (fun W => (W.cell? ⟨w4.heap.size, 0, none⟩ = some (.int .i64 (b.c.sent : Nat)) ∧ W.cell? ⟨w4.heap.size, 1, none⟩ = some (.int .i64 (b.c.del : Nat)) ∧ W.cell? ⟨w4.heap.size, 2, none⟩ = some (.int .i64 (b.c.drp : Nat)) ∧ W.cell? ⟨w4.heap.size, 3, none⟩ = some (.int .i64 (b.c.dbl : Nat)) ∧ W.cell? ⟨w4.heap.size, 4, none⟩ = some (.int .i64 (b.c.spt : Nat)) ∧ W.cell? ⟨w4.heap.size, 5, none⟩ = some (.int .i64 (b.c.lost : Nat)))) (first | exact hc0 | exact hc7 | exact hc8 | exact hc9.1) (first
                  | (go_at_call 14; (with_reducible refine HAG.out.mono ?_); rintro e w7 ⟨A7, c7, rfl, hc7, hk7⟩; have HK7 := Lib.hid hk7; clear hk7 HAG)
                  | (go_at_call 16; (with_reducible refine HK7.out.mono ?_); rintro e w8 ⟨rfl, hc8, hk8⟩; have HK8 := Lib.hid hk8; clear hk8 HK7)
                  | (go_at_call 18; (with_reducible refine HK8.out.mono ?_); rintro e w9 ⟨rfl, hc9⟩; (try simp only [ctA])))
                have HFF := Lib.hid (HQ.out _ hc9.2)
                clear hc0 hc7 hc8 hc9 HK8 HQ
                go_wp2
                first | exact HFF.out | (go_ret; exact HFF.out)
  · clear HG
    generalize x.d.length = DL at *
    go_wp2
    first | exact HF1.out | (go_ret; exact HF1.out)
end Go.Proofs.Ytinihggcibghaaa
