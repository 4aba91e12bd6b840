/-
  The law StampQueues.
-/
import Derived.Test.YtnecmlkljijofaaSpq5
import Derived.Test.YtnecmlkljijofaaSpo
import Derived.Deep.DeepCutAuto
import Derived.Deep.CutBlock
namespace Go.Proofs.Ytnecmlkljijofaa
set_option maxRecDepth 100000
set_option linter.unusedSimpArgs false
open Go Go.RowKit Sp
attribute [local go_sem] Oper.semAt_some

theorem zw_new {w : World} {ZC : Array Value} (h : ZC = (csA (pad []) ++ [Value.int .i64 ((0 : Nat) : Int)]).toArray) : ZW w [] [] (.slice none 0 0) [] ((w.alloc (.cells ZC 43)).alloc (.cells #[.slice none 0 0] 47)) := by
  have hq := zq (w := w) h
  have hr := World.alloc_heap_new (w.alloc (.cells ZC 43)) (.cells #[.slice none 0 0] 47)
  rw [World.size_alloc] at hr
  exact ⟨hq.kept (X := fun _ => False) ((Kept.refl _ _).alloc _) id, ⟨hr, World.ownsRow_nil _ _ _ _⟩, ((Below.refl _ w).alloc (Nat.le_refl _) _).alloc (by simp) _, fun x hx => by cases hx⟩

set_option maxHeartbeats 16000000 in
theorem queues_any {w : World} {A : Option Addr} {L : List Cl} {cap : Nat} (hA : OpsAt w A L) :
    Calls Try.prog 4 #[.slice A L.length cap] w fun x w' => x = .returned (.bool true) ∧ Below w.heap.size w w' := by
  obtain ⟨N, hN⟩ : ∃ N, N = L.length := ⟨_, rfl⟩
  rw [← hN]
  by_cases hl : 200 < N
  · have e1 : decide ((200 : Int) < (N : Int)) = true := by simp; omega
    have e2 : decide (200 < N) = true := by simpa using hl
    clear hA
    have HF : Hid (Below w.heap.size w w) := Below.refl _ _
    go_enter Try.func4, Try.ntmps4
    go_wp2
    go_ret
    exact ⟨rfl, HF.out⟩
  · have e1 : decide ((200 : Int) < (N : Int)) = false := by simp; omega
    have e2 : decide (200 < N) = false := by simpa using hl
    have HA := Lib.hid hA
    have HN := Lib.hid hN
    have hN2 : N ≤ 200 := by omega
    clear hA hN
    obtain ⟨ZC, hZC⟩ : ∃ ZC : Array Value, ZC = (csA (pad []) ++ [Value.int .i64 ((0 : Nat) : Int)]).toArray := ⟨_, rfl⟩
    have HI1 := Lib.hid (zw_new (w := w) hZC)
    have HZC : Hid (ZC = #[.int .i64 0, .int .u64 0, .int .i64 0, .int .i64 0, .int .u64 0, .int .i64 0, .int .i64 0, .int .u64 0, .int .i64 0, .int .i64 0, .int .u64 0, .int .i64 0, .int .i64 0, .int .u64 0, .int .i64 0, .int .i64 0, .int .u64 0, .int .i64 0, .int .i64 0, .int .u64 0, .int .i64 0, .int .i64 0, .int .u64 0, .int .i64 0, .int .i64 0]) := by show _ = _; rw [hZC]; rfl
    clear hZC
    go_enter Try.func4, Try.ntmps4
    go_wp2_with fail
    rw [← HZC.out]
    obtain ⟨W1, hW1⟩ : ∃ W1, (w.alloc (.cells ZC 43)).alloc (.cells #[.slice none 0 0] 47) = W1 := ⟨_, rfl⟩
    rw [hW1] at HI1 ⊢
    clear hW1 HZC
    go_loopw [31] (fun u wr => ∃ j : Nat, j ≤ N ∧ u = .int .i64 (j : Int) ∧ ∃ l m v, Rep l m ∧ ZW w l m v [] wr) (fun u _ => N - (intOf u).toNat)
    case atStart => exact ⟨0, Nat.zero_le _, rfl, [], [], _, Rep.nil, HI1.out⟩
    case round =>
      obtain ⟨j, hj, rfl, l, m, v, hrep, hz⟩ := hrel
      rename World => V
      by_cases hlt : j < N
      · obtain ⟨a, rfl, c0, c1, c2, c3⟩ := (HA.out.kept (Kept.of_below (X := fun k => w.heap.size ≤ k) hz.b (Nat.le_refl _)) (fun k hk => by omega)) j (by rw [← HN.out]; exact hlt)
        have HJ := Lib.hid hlt
        have j0 : (0 : Int) ≤ (j : Int) := by omega
        have j1 : (j : Int) < (N : Int) := by omega
        have hm8 : m.length ≤ 8 := ZW.m8 hrep
        have HREP := Lib.hid hrep
        obtain ⟨K, hK⟩ : ∃ K, K = V.heap.size := ⟨_, rfl⟩
        have HK := Lib.hid hK
        have xj : IntKind.i64.wrap ((j : Int) + 1) = (j : Int) + 1 := IntWalk.i64_in _ (by omega)
        clear hrep hj HI1
        generalize L.getD j default = op at *
        obtain ⟨kind, y⟩ := op
        simp only at c0 c1 c2 c3
        have hbl := box_laid V y
        have HZ1 := Lib.hid (hz.cons hbl.1 hbl.2)
        have hv1 : ∀ c t, (V.alloc (.cells c t)).cell? (a.add (j * 4)) = some (.int .i64 kind) := fun c t => Lib.cell?_alloc_some _ c0
        clear hbl hz
        go_upto_block 2 with fail
        obtain ⟨V1, hV1⟩ : ∃ V1, V.alloc (.cells #[.int .i64 y.r, .int .u64 y.s, .int .i64 y.p] 40) = V1 := ⟨_, rfl⟩
        rw [hV1, ← hK] at HZ1
        rw [hV1, ← hK]
        clear hV1 hv1 c0 c1 c2 c3 hK
        obtain ⟨b0, b1, b2⟩ := HZ1.out.box (k := K) (y := y) (by simp)
        go_cut [7] (fun s7 wr => s7 = .bool true ∧ ∃ l2 m2 v2, Rep l2 m2 ∧ ZW w l2 m2 v2 [(K, y)] wr)
        case first =>
          by_cases k0 : kind = 0
          · subst k0
            as_aux_lemma =>
              have HP1 := Lib.hid (c_put1 HZ1.out y)
              go_wp2_with fail
              refine HP1.out.mono ?_
              rintro e' V2 ⟨rfl, z2⟩
              have HP2 := Lib.hid (c_put2 z2 hm8 y)
              obtain ⟨b0, b1, b2⟩ := z2.box (k := K) (y := y) (by simp)
              rw [HREP.out.putB y] at HP2
              have HREPx : Hid (Rep (if may y then putL y l else l) (if may y then rputL m y else m)) := by
                show Rep _ _
                split
                · exact HREP.out.put y
                · exact HREP.out
              obtain ⟨B, hB⟩ : ∃ B, B = (may y && putB y l) := ⟨_, rfl⟩
              obtain ⟨E, hE⟩ : ∃ E : Int, E = (if may y then 0 else 2) := ⟨_, rfl⟩
              rw [← hB, ← hE] at HP2
              rw [← hB, ← hE]
              clear z2 HP1 HZ1 hB hE
              go_wp2_with fail
              refine HP2.out.mono ?_
              rintro e' V3 ⟨rfl, v2, z3⟩
              have HZ := Lib.hid z3
              clear z3 HP2 HREP hm8 b0 b1 b2
              go_wp2_with fail
              go_meet
              case rel => exact ⟨rfl, _, _, v2, HREPx.out, HZ.out⟩

          · have q0 : (kind == 0) = false := by simpa using k0
            by_cases k1 : kind = 1
            · subst k1
              as_aux_lemma =>
                have z1 := HZ1.out
                have z1d : ZW w l m v [(K, y)] V1.drew := z1.still (Kept.refl _ _).drew
                have HC1 := Lib.hid (c_up1 z1d y.r y.p)
                obtain ⟨hb0, hb1, hb2⟩ := z1.box (k := K) (y := y) (by simp)
                have HC2 := Lib.hid (fun W (z : ZW w (upL l y.r y.p) m v [(K, y)] W) => c_up2 z hm8 y.r y.p)
                have HREPx : Hid (Rep (upL l y.r y.p) (rupL m y.r y.p)) := HREP.out.up y.r y.p
                rw [HREP.out.upB y.r y.p] at HC2
                obtain ⟨B, hB⟩ : ∃ B, B = upB l y.r y.p := ⟨_, rfl⟩
                rw [← hB] at HC1 HC2
                obtain ⟨Z2, hZ2⟩ : ∃ Z2, Z2 = ZW w (upL l y.r y.p) m v [(K, y)] := ⟨_, rfl⟩
                rw [← hZ2] at HC1 HC2
                have HBX2 : Hid (∀ W, Z2 W → W.cell? ⟨K, 0, none⟩ = some (.int .i64 y.r) ∧ W.cell? ⟨K, 1, none⟩ = some (.int .u64 y.s) ∧ W.cell? ⟨K, 2, none⟩ = some (.int .i64 y.p)) := by rw [hZ2]; exact fun W z => z.box (by simp)
                have HBX3 : Hid (∀ W v2, ZW w (upL l y.r y.p) (rupL m y.r y.p) v2 [(K, y)] W → W.cell? ⟨K, 0, none⟩ = some (.int .i64 y.r) ∧ W.cell? ⟨K, 1, none⟩ = some (.int .u64 y.s) ∧ W.cell? ⟨K, 2, none⟩ = some (.int .i64 y.p)) := fun W v2 z => z.box (by simp)
                clear hB hZ2 HZ1 HREP hm8 z1
                go_wp2_with fail
                go_region_held3 (fun W => W.cell? ⟨K, 0, none⟩ = some (.int .i64 y.r) ∧ W.cell? ⟨K, 1, none⟩ = some (.int .u64 y.s) ∧ W.cell? ⟨K, 2, none⟩ = some (.int .i64 y.p)) (first | exact (show ZW w l m v [(K, y)] V1.drew from z1d).box (by simp) | exact HBX3.out _ _ z3 | exact HBX2.out _ z2) (first | (go_at_call 16; (with_reducible refine HC1.out.mono ?_); rintro e V2 ⟨rfl, z2⟩) | (go_at_call 17; (with_reducible refine (HC2.out _ z2).mono ?_); rintro e V3 ⟨rfl, v2, z3⟩))
                have HZ := Lib.hid z3
                clear z3 z2 z1d HC1 HC2
                go_wp2_with fail
                go_meet
                case rel => exact ⟨rfl, _, _, v2, HREPx.out, HZ.out⟩

            · have q1 : (kind == 1) = false := by simpa using k1
              by_cases k2 : kind = 2
              · subst k2
                as_aux_lemma =>
                  have z1 := HZ1.out
                  have z1d : ZW w l m v [(K, y)] V1.drew := z1.still (Kept.refl _ _).drew
                  have HC1 := Lib.hid (c_cut1 z1d y.r)
                  obtain ⟨hb0, hb1, hb2⟩ := z1.box (k := K) (y := y) (by simp)
                  have HC2 := Lib.hid (fun W (z : ZW w (cutL l y.r) m v [(K, y)] W) => c_cut2 z hm8 y.r)
                  have HREPx : Hid (Rep (cutL l y.r) (rcutL m y.r)) := HREP.out.cut y.r
                  rw [HREP.out.has y.r] at HC2
                  obtain ⟨B, hB⟩ : ∃ B, B = has l y.r := ⟨_, rfl⟩
                  rw [← hB] at HC1 HC2
                  obtain ⟨Z2, hZ2⟩ : ∃ Z2, Z2 = ZW w (cutL l y.r) m v [(K, y)] := ⟨_, rfl⟩
                  rw [← hZ2] at HC1 HC2
                  have HBX2 : Hid (∀ W, Z2 W → W.cell? ⟨K, 0, none⟩ = some (.int .i64 y.r) ∧ W.cell? ⟨K, 1, none⟩ = some (.int .u64 y.s) ∧ W.cell? ⟨K, 2, none⟩ = some (.int .i64 y.p)) := by rw [hZ2]; exact fun W z => z.box (by simp)
                  have HBX3 : Hid (∀ W v2, ZW w (cutL l y.r) (rcutL m y.r) v2 [(K, y)] W → W.cell? ⟨K, 0, none⟩ = some (.int .i64 y.r) ∧ W.cell? ⟨K, 1, none⟩ = some (.int .u64 y.s) ∧ W.cell? ⟨K, 2, none⟩ = some (.int .i64 y.p)) := fun W v2 z => z.box (by simp)
                  clear hB hZ2 HZ1 HREP hm8 z1
                  go_wp2_with fail
                  go_region_held3 (fun W => W.cell? ⟨K, 0, none⟩ = some (.int .i64 y.r) ∧ W.cell? ⟨K, 1, none⟩ = some (.int .u64 y.s) ∧ W.cell? ⟨K, 2, none⟩ = some (.int .i64 y.p)) (first | exact (show ZW w l m v [(K, y)] V1.drew from z1d).box (by simp) | exact HBX3.out _ _ z3 | exact HBX2.out _ z2) (first | (go_at_call 18; (with_reducible refine HC1.out.mono ?_); rintro e V2 ⟨rfl, z2⟩) | (go_at_call 19; (with_reducible refine (HC2.out _ z2).mono ?_); rintro e V3 ⟨rfl, v2, z3⟩))
                  have HZ := Lib.hid z3
                  clear z3 z2 z1d HC1 HC2
                  go_wp2_with fail
                  go_meet
                  case rel => exact ⟨rfl, _, _, v2, HREPx.out, HZ.out⟩

              · have q2 : (kind == 2) = false := by simpa using k2
                have HZ := HZ1
                clear HZ1 b0 b1 b2 hm8
                go_wp2_with fail
                go_meet
                case rel => exact ⟨rfl, l, m, v, HREP.out, HZ.out⟩
        case rest =>
          obtain ⟨rfl, l2, m2, v2, hrep2, hz2⟩ := hcut
          have HZ := Lib.hid hz2
          have HREP2 := Lib.hid hrep2
          clear hz2 hrep2 HZ1 HREP hm8 b0 b1 b2
          have hm2 : m2.length ≤ 8 := ZW.m8 HREP2.out
          have hl2 : l2.length ≤ 8 := HREP2.out.ok.len
          have HLEN : Hid (m2.length = l2.length) := HREP2.out.len
          have HC4 := Lib.hid (c_all2 HZ.out HREP2.out)
          go_wp2_with fail
          refine HC4.out.mono ?_
          rintro e' V4 ⟨vb, rfl, ib, z4⟩
          have HC5 := Lib.hid (c_all1 z4 ib)
          clear ib z4 HC4 HZ
          go_wp2_with fail
          refine HC5.out.mono ?_
          rintro e' V5 ⟨va, rfl, z5⟩
          have HC6 := Lib.hid (c_first z5)
          obtain ⟨F, hF⟩ : ∃ F, F = l2.getD 0 w0 := ⟨_, rfl⟩
          rw [← hF] at HC6
          have HF := Lib.hid hF
          clear hF z5 HC5
          go_wp2_with fail
          refine HC6.out.mono ?_
          rintro e' V6 ⟨rfl, z6⟩
          obtain ⟨b0, b1, b2⟩ := z6.z.box (k := K) (y := y) (by simp)
          have a6 : ∀ c t, (V6.alloc (.cells c t)).cell? ⟨K, 0, none⟩ = some (.int .i64 y.r) := fun c t => Lib.cell?_alloc_some _ b0
          have hbl := box_laid V6 F
          have HZ7 := Lib.hid (z6.cons hbl.1 hbl.2)
          clear z6 HC6 hbl b0 b1 b2
          go_wp2_with fail
          obtain ⟨V7, hV7⟩ : ∃ V7, V6.alloc (.cells #[.int .i64 F.r, .int .u64 F.s, .int .i64 F.p] 40) = V7 := ⟨_, rfl⟩
          obtain ⟨K1, hK1⟩ : ∃ K1, V6.heap.size = K1 := ⟨_, rfl⟩
          rw [hV7, hK1] at HZ7
          rw [hV7, hK1]
          clear hV7 hK1 a6
          refine (c_find HZ7.out y.r).mono ?_
          rintro e' V8 ⟨rfl, z8⟩
          obtain ⟨X, hX⟩ : ∃ X, X = finV l2 y.r := ⟨_, rfl⟩
          rw [← hX]
          obtain ⟨b0, b1, b2⟩ := z8.z.box (k := K) (y := y) (by simp)
          have a8 : ∀ c t, (V8.alloc (.cells c t)).cell? ⟨K, 0, none⟩ = some (.int .i64 y.r) := fun c t => Lib.cell?_alloc_some _ b0
          have hbl := box_laid V8 X
          have HZ9 := Lib.hid (z8.cons hbl.1 hbl.2)
          clear z8 HZ7 hbl b0 b1 b2
          obtain ⟨hb, hhb⟩ : ∃ hb, hb = has l2 y.r := ⟨_, rfl⟩
          have hat := HREP2.out.atI y.r
          rw [← hhb, ← hX] at hat
          rw [← hhb]
          obtain ⟨ai, hai⟩ : ∃ ai, ai = atI m2 y.r := ⟨_, rfl⟩
          rw [← hai] at hat
          have HAT := Lib.hid hat
          have HAB : Hid (decide ((0 : Int) ≤ ai) = hb) := by
            show _ = _
            rcases hat with ⟨e1, e2, _⟩ | ⟨e1, e2, _⟩
            · rw [e1, e2]; simp
            · rw [e1, e2]; simp
          have HAI := Lib.hid hai
          clear hhb hX hat hai
          go_wp2_with fail
          obtain ⟨V9, hV9⟩ : ∃ V9, V8.alloc (.cells #[.int .i64 X.r, .int .u64 X.s, .int .i64 X.p] 40) = V9 := ⟨_, rfl⟩
          obtain ⟨K2, hK2⟩ : ∃ K2, V8.heap.size = K2 := ⟨_, rfl⟩
          rw [hV9, hK2] at HZ9
          rw [hV9, hK2]
          clear hV9 hK2 a8
          refine (c_rfind HZ9.out hm2 y.r).mono ?_
          rintro e' V10 ⟨rfl, z10⟩
          rw [← HAI.out]
          clear HZ9
          go_upto_if 114 with fail
          obtain ⟨V11, hV11⟩ : ∃ V11, V10.alloc (.cells #[.int .i64 0, .int .u64 0, .int .i64 0] 40) = V11 := ⟨_, rfl⟩
          have hbl := box_laid V10 w0
          have s11 : Still V10 V11 := by rw [← hV11]; exact hbl.1
          have hx11 : BoxA V11 V10.heap.size w0 := by rw [← hV11]; exact hbl.2
          rw [hV11]
          clear hV11 hbl
          obtain ⟨K3, hK3⟩ : ∃ K3, V10.heap.size = K3 := ⟨_, rfl⟩
          have HK3 := Lib.hid hK3
          rw [hK3]
          rw [hK3] at hx11
          clear hK3
          go_cut [18] (fun s18 wr => s18 = .int .i64 ai ∧ ZA w l2 m2 v2 [(K3, X), (K2, X), (K1, F), (K, y)] va vb wr)
          case first =>
            rcases HAT.out with ⟨hb1, hat, hi2, hXi⟩ | ⟨hb1, hat, hX0⟩
            · have z11 := z10.still s11
              obtain ⟨gr, capr, rfl, ⟨g0, g1, g2⟩, _⟩ := z11.z.r.places hi2
              rw [hXi] at g0 g1 g2
              have rc0 := z11.z.r.cell.1
              rw [← HK3.out] at hx11
              have hfl := box_filled V10 X s11 hx11
              have HZ12 := Lib.hid (z10.cons hfl.1 hfl.2)
              rw [HK3.out] at hx11 HZ12
              obtain ⟨y0, y1, y2⟩ := hx11.cells
              have yf0 : V11.frozen? ⟨K3, 0, none⟩ = false := blk_free hx11 0
              have yf1 : V11.frozen? ⟨K3, 1, none⟩ = false := blk_free hx11 1
              have yf2 : V11.frozen? ⟨K3, 2, none⟩ = false := blk_free hx11 2
              have i0 : (0 : Int) ≤ ((idx m2 y.r : Nat) : Int) := by omega
              have i1 : ((idx m2 y.r : Nat) : Int) < ((m2.length : Nat) : Int) := by omega
              have HI := Lib.hid hi2
              clear z10 s11 hx11 z11 hfl hXi hi2 HAI HAT
              generalize idx m2 y.r = ix at *
              subst hat
              obtain ⟨ml, hml⟩ : ∃ ml, m2.length = ml := ⟨_, rfl⟩
              rw [hml] at i1 rc0
              clear hml
              go_wp2_with fail
              go_meet
              case rel => exact ⟨rfl, HZ12.out⟩
            · rw [← hX0] at hx11
              rw [← HK3.out] at hx11
              have HZ12 := Lib.hid (z10.cons s11 hx11)
              rw [HK3.out] at HZ12
              clear z10 s11 hx11 HAI HAT
              subst hat
              go_wp2_with fail
              go_meet
              case rel => exact ⟨rfl, HZ12.out⟩
          case rest =>
            obtain ⟨rfl, z12⟩ := hcut
            clear z10 s11 hx11 HK3
            rename World => V12
            obtain ⟨Ab, capb, rfl, _⟩ := z12.b
            go_upto_if 125 with fail
            obtain ⟨V13, hV13⟩ : ∃ V13, V12.alloc (.cells #[.int .i64 0, .int .u64 0, .int .i64 0] 40) = V13 := ⟨_, rfl⟩
            have hbl := box_laid V12 w0
            have s13 : Still V12 V13 := by rw [← hV13]; exact hbl.1
            have hx13 : BoxA V13 V12.heap.size w0 := by rw [← hV13]; exact hbl.2
            rw [hV13]
            clear hV13 hbl
            obtain ⟨K4, hK4⟩ : ∃ K4, V12.heap.size = K4 := ⟨_, rfl⟩
            have HK4 := Lib.hid hK4
            rw [hK4]
            rw [hK4] at hx13
            clear hK4
            go_cut [] (fun wr => ZA w l2 m2 v2 [(K4, F), (K3, X), (K2, X), (K1, F), (K, y)] va (.slice Ab l2.length capb) wr)
            case first =>
              by_cases hn0 : 0 < l2.length
              · obtain ⟨Ab', capb', eb, hcb⟩ := (z12.still s13).b
                cases eb
                obtain ⟨gb, rfl, f0, f1, f2⟩ := hcb 0 hn0
                rw [← HF.out] at f0 f1 f2
                rw [← HK4.out] at hx13
                have hfl := box_filled V12 F s13 hx13
                have HZ14 := Lib.hid (z12.cons hfl.1 hfl.2)
                rw [HK4.out] at hx13 HZ14
                obtain ⟨y0, y1, y2⟩ := hx13.cells
                have yf0 : V13.frozen? ⟨K4, 0, none⟩ = false := blk_free hx13 0
                have yf1 : V13.frozen? ⟨K4, 1, none⟩ = false := blk_free hx13 1
                have yf2 : V13.frozen? ⟨K4, 2, none⟩ = false := blk_free hx13 2
                have d1 : decide ((0 : Int) < (l2.length : Int)) = true := by simp; omega
                have d2 : decide (0 < l2.length) = true := by simpa using hn0
                have d3 : (0 : Int) < (l2.length : Int) := by omega
                clear z12 s13 hx13 hcb hfl HAI HAT HREP2
                go_wp2_with fail
                go_meet
                case rel => exact HZ14.out
              · have hl0 : l2 = [] := List.eq_nil_of_length_eq_zero (by omega)
                have hF0 : F = w0 := by rw [HF.out, hl0]; rfl
                rw [← hF0] at hx13
                rw [← HK4.out] at hx13
                have HZ14 := Lib.hid (z12.cons s13 hx13)
                rw [HK4.out] at HZ14
                have d1 : decide ((0 : Int) < (l2.length : Int)) = false := by simp; omega
                have d2 : decide (0 < l2.length) = false := by simp; omega
                clear z12 s13 hx13 hF0 hl0 HAI HAT HREP2
                go_wp2_with fail
                go_meet
                case rel => exact HZ14.out
            case rest =>
              have z14 := hcut
              clear hcut z12 s13 hx13 HK4 HAI HAT
              rename World => V14
              as_aux_lemma =>
                obtain ⟨Aa, capa, rfl, _⟩ := IsW.of_row z14.a
                obtain ⟨ZP, hz14, hz14d, hS, hNP, hAh, hRA, hbx, hRR⟩ := z_end z14 hl2 y F
                have HS := Lib.hid hS
                have HNP := Lib.hid hNP
                have HAh := Lib.hid hAh
                have HRA := Lib.hid hRA
                have HRR := Lib.hid hRR
                have HBX : Hid (∀ V, ZP V → (fun W => (W.cell? ⟨K, 0, none⟩ = some (.int .i64 y.r) ∧ W.cell? ⟨K, 1, none⟩ = some (.int .u64 y.s) ∧ W.cell? ⟨K, 2, none⟩ = some (.int .i64 y.p)) ∧ (W.cell? ⟨K1, 0, none⟩ = some (.int .i64 F.r) ∧ W.cell? ⟨K1, 1, none⟩ = some (.int .u64 F.s) ∧ W.cell? ⟨K1, 2, none⟩ = some (.int .i64 F.p)) ∧ (W.cell? ⟨K2, 0, none⟩ = some (.int .i64 X.r) ∧ W.cell? ⟨K2, 1, none⟩ = some (.int .u64 X.s) ∧ W.cell? ⟨K2, 2, none⟩ = some (.int .i64 X.p)) ∧ (W.cell? ⟨K3, 0, none⟩ = some (.int .i64 X.r) ∧ W.cell? ⟨K3, 1, none⟩ = some (.int .u64 X.s) ∧ W.cell? ⟨K3, 2, none⟩ = some (.int .i64 X.p)) ∧ (W.cell? ⟨K4, 0, none⟩ = some (.int .i64 F.r) ∧ W.cell? ⟨K4, 1, none⟩ = some (.int .u64 F.s) ∧ W.cell? ⟨K4, 2, none⟩ = some (.int .i64 F.p))) V) := fun V z => ⟨hbx V z K y (by simp), hbx V z K1 F (by simp), hbx V z K2 X (by simp), hbx V z K3 X (by simp), hbx V z K4 F (by simp)⟩
                have hEq : ∀ (x0 x1 x2 : Int) (w : World), (binOp .neq 40 (.agg #[.int .i64 x0, .int .u64 x1, .int .i64 x2]) (.agg #[.int .i64 x0, .int .u64 x1, .int .i64 x2])).run Try.prog w = .ok (.bool false) w := fun x0 x1 x2 w => by
                  rw [run_neq_struct, eqWt]; simp [Result.andThen]
                obtain ⟨⟨p0, p1, p2⟩, ⟨p3, p4, p5⟩, ⟨p6, p7, p8⟩, ⟨p9, pa, pb⟩, pc, pd, pe⟩ := HBX.out _ hz14
                obtain ⟨ff, hff⟩ : ∃ ff, ff = fore y F := ⟨_, rfl⟩
                rw [← hff] at HAh HRA
                obtain ⟨nn, hnn⟩ : ∃ nn, nn = l2.length := ⟨_, rfl⟩
                rw [← hnn] at HNP HS HRR hl2 ⊢
                have hab := HAB.out
                obtain ⟨dd, hdd⟩ : ∃ dd, dd = decide (0 < nn) := ⟨_, rfl⟩
                have hdi : decide ((0 : Int) < (nn : Int)) = dd := by rw [hdd]; by_cases h : 0 < nn <;> simp [h]
                have hdn : decide (0 < nn) = dd := hdd.symm
                rw [← hdd]
                clear hff hS hNP hAh hRA hbx hRR z14
                have HNN := Lib.hid hnn
                clear hnn hdd
                go_wp2_with fail
                go_region_held3 (fun W => (W.cell? ⟨K, 0, none⟩ = some (.int .i64 y.r) ∧ W.cell? ⟨K, 1, none⟩ = some (.int .u64 y.s) ∧ W.cell? ⟨K, 2, none⟩ = some (.int .i64 y.p)) ∧ (W.cell? ⟨K1, 0, none⟩ = some (.int .i64 F.r) ∧ W.cell? ⟨K1, 1, none⟩ = some (.int .u64 F.s) ∧ W.cell? ⟨K1, 2, none⟩ = some (.int .i64 F.p)) ∧ (W.cell? ⟨K2, 0, none⟩ = some (.int .i64 X.r) ∧ W.cell? ⟨K2, 1, none⟩ = some (.int .u64 X.s) ∧ W.cell? ⟨K2, 2, none⟩ = some (.int .i64 X.p)) ∧ (W.cell? ⟨K3, 0, none⟩ = some (.int .i64 X.r) ∧ W.cell? ⟨K3, 1, none⟩ = some (.int .u64 X.s) ∧ W.cell? ⟨K3, 2, none⟩ = some (.int .i64 X.p)) ∧ (W.cell? ⟨K4, 0, none⟩ = some (.int .i64 F.r) ∧ W.cell? ⟨K4, 1, none⟩ = some (.int .u64 F.s) ∧ W.cell? ⟨K4, 2, none⟩ = some (.int .i64 F.p))) (first | exact HBX.out _ hz14d | exact HBX.out _ z18 | exact HBX.out _ z17 | exact HBX.out _ z16 | exact HBX.out _ z15) (first | (go_at_call 25; (with_reducible refine (HS.out _ hz14d).mono ?_); rintro e V15 ⟨rfl, z15⟩) | (go_at_call 26; (with_reducible refine (HNP.out _ z15).mono ?_); rintro e V16 ⟨rfl, z16⟩) | (go_at_call 27; (with_reducible refine (HAh.out _ z16).mono ?_); rintro e V17 ⟨rfl, z17⟩) | (go_at_call 28; (with_reducible refine (HRA.out _ z17).mono ?_); rintro e V18 ⟨rfl, z18⟩))
                have HR := Lib.hid (HRR.out _ z18)
                clear z18 z17 z16 z15 hz14 hz14d HS HNP HAh HRA HRR HBX hEq p0 p1 p2 p3 p4 p5 p6 p7 p8 p9 pa pb pc pd pe hab hdi hdn
                have hn8 := hl2
                go_wp2_with fail
                go_loopw [178] (fun u wr => ∃ k : Nat, k ≤ nn ∧ u = .int .i64 (k : Int) ∧ ZR w l2 m2 v2 (.slice Aa nn capa) nn wr) (fun u _ => nn - (intOf u).toNat)
                case atStart => exact ⟨0, Nat.zero_le _, rfl, HR.out⟩
                case round =>
                  obtain ⟨k, hk, rfl, hr⟩ := hrel
                  by_cases hlt2 : k < nn
                  · obtain ⟨g, cap2, ev, ⟨u0, u1, u2, z0, z1, z2⟩, fz, hst⟩ := hr.step hlt2
                    cases ev
                    have f0 := fz (k * 3)
                    have f1 := fz (k * 3 + 1)
                    have f2 := fz (k * 3 + 2)
                    have HS := Lib.hid hst
                    have HJ2 := Lib.hid hlt2
                    have k0 : (0 : Int) ≤ (k : Int) := by omega
                    have k1 : (k : Int) < (nn : Int) := by omega
                    have xk : IntKind.i64.wrap ((k : Int) + 1) = (k : Int) + 1 := IntWalk.i64_in _ (by omega)
                    clear hr hst fz hk HR
                    go_wp2
                    go_roundw
                    case rel => exact ⟨k + 1, HJ2.out, by go_num, HS.out⟩
                    case measure => have := HJ2.out; simp [intOf]; omega
                  · obtain rfl : k = nn := by omega
                    have HZ := Lib.hid hr.z
                    clear hr HR hk
                    go_wp2
                    go_roundw
                    case rel => exact ⟨j + 1, HJ.out, by go_num, l2, m2, v2, HREP2.out, HZ.out⟩
                    case measure => have := HJ.out; simp [intOf]; omega
      · obtain rfl : j = N := by omega
        have HF := Lib.hid hz.b
        clear hz HI1 HA hrep hj
        go_wp2
        go_ret
        exact ⟨rfl, HF.out⟩
end Go.Proofs.Ytnecmlkljijofaa
