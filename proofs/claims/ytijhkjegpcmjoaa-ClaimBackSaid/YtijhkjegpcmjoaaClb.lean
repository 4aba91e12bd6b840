/-
  ClaimBack: claims are loaded from the records of all cells that were ever claimed as they were.
-/
import Derived.Test.YtijhkjegpcmjoaaClb2
namespace Go.Proofs.Ytijhkjegpcmjoaa
set_option maxRecDepth 100000
set_option linter.unusedSimpArgs false
open Go Go.RowKit Cl

theorem takeL_sub {s : List Cm} {C : List Int} {x : Cm} (hs : ∀ y ∈ s, y.c ∈ C) (hx : x.c ∈ C) : ∀ y ∈ takeL s x, y.c ∈ C := by
  intro y hy
  unfold takeL at hy
  split at hy
  · rcases mem_ins.1 hy with rfl | hy
    · exact hx
    · exact hs y hy
  · exact hs y hy
theorem dropL_sub {s : List Cm} {C : List Int} {c : Int} (hs : ∀ y ∈ s, y.c ∈ C) : ∀ y ∈ dropL s c, y.c ∈ C := by
  intro y hy
  unfold dropL at hy
  split at hy
  · exact hs y (List.mem_of_mem_eraseIdx hy)
  · exact hs y hy
theorem row_sl {w : World} {F size n : Nat} {e : TypeId} {v : Value} {xs : List Value} (h : w.ownsRow F e size v n xs) : ∃ A cap, v = .slice A n cap := by
  rcases h.2 with ⟨rfl, h0⟩ | ⟨g, cap, cur, rfl, _⟩
  · exact ⟨none, 0, by rw [h0]⟩
  · exact ⟨_, _, rfl⟩
theorem row_int {V : World} {F n cc : Nat} {A : Option Addr} {C : List Int} (h : V.ownsRow F 3 1 (.slice A n cc) C.length (C.map iv)) {t : Nat} (ht : t < C.length) : ∃ g, A = some ⟨g, 0, none⟩ ∧ V.cell? ⟨g, t, none⟩ = some (.int .i64 (C.getD t 0)) := by
  have h0 := h
  rcases h.2 with ⟨e, h1⟩ | ⟨g, cap, cur, e, _⟩
  · omega
  · injection e with e1 e2 e3
    subst e1
    subst e2
    subst e3
    refine ⟨g, rfl, ?_⟩
    have := h0.cells (g := g) rfl t (iv (C.getD t 0)) (by simp [List.getD, ht])
    have e : (⟨g, 0, none⟩ : Addr).add t = ⟨g, t, none⟩ := by unfold Addr.add; split <;> simp_all
    rwa [e] at this
set_option maxHeartbeats 8000000 in
theorem back_any {w : World} {A : Option Addr} {l : List Kop} {cap : Nat} (hA : OpsAt w A l) (hm : ∀ k, k < l.length → OpIn (l.getD k default)) :
    Calls Try.prog 6 #[.slice A l.length cap] w fun e w' => e = .returned (.bool true) ∧ Below w.heap.size w w' := by
  have HAl := Lib.hid (alive_any w)
  have HA := Lib.hid hA
  have HM := Lib.hid hm
  clear hA hm
  obtain ⟨R, hR⟩ : ∃ R : Ending → World → Prop, R = fun e w' => e = .returned (.bool true) ∧ Below w.heap.size w w' := ⟨_, rfl⟩
  have HR : Hid (∀ w', Below w.heap.size w w' → R (.returned (.bool true)) w') := by rw [hR]; exact fun w' h => ⟨rfl, h⟩
  rw [← hR]
  clear hR
  obtain ⟨N, hN⟩ : ∃ N, N = l.length := ⟨_, rfl⟩
  have HN := Lib.hid hN
  rw [← hN] at HM ⊢
  clear hN
  by_cases hl : 100 < N
  · have d1 : decide ((100 : Int) < (N : Int)) = true := by simp; omega
    go_enter Try.func6, Try.ntmps6
    go_wp2_with fail
    refine HAl.out.mono ?_
    rintro e W0 ⟨rfl, b0⟩
    have HB := Lib.hid (HR.out _ b0)
    clear b0
    go_wp2
    first | exact HB.out | (go_ret; exact HB.out)
  · have d1 : decide ((100 : Int) < (N : Int)) = false := by simp; omega
    have hN100 : N ≤ 100 := by omega
    clear hl
    go_enter Try.func6, Try.ntmps6
    go_wp2_with fail
    refine HAl.out.mono ?_
    rintro e W0 ⟨rfl, b0⟩
    obtain ⟨b, hb⟩ : ∃ b, b = W0.heap.size := ⟨_, rfl⟩
    obtain ⟨m, hmm⟩ : ∃ m, m = b + 1 := ⟨_, rfl⟩
    obtain ⟨W1, hW1⟩ : ∃ W1, (W0.alloc (.cells z33 29)).alloc (.map #[] 0) = W1 := ⟨_, rfl⟩
    have h0 : BkI w w.heap.size b m 0 [] [] (.slice none 0 0) W1 := by
      have c0 := (z33_new W0).below (alloc_below (W0.alloc (.cells z33 29)) (.map #[] 0))
      have m0 := Mny.made (W0.alloc (.cells z33 29))
      rw [World.size_alloc] at m0
      rw [hW1] at c0 m0
      have hbl : Below w.heap.size w W1 := by
        rw [← hW1]
        exact (b0.trans ((alloc_below W0 _).mono b0.size)).trans ((alloc_below _ _).mono (by have := b0.size; simp; omega))
      have := b0.size
      exact ⟨by rw [hb]; exact c0, ⟨0, _, Nat.le_refl _, by rw [hmm, hb]; exact m0, fun c => ⟨Int.le_refl _, Int.le_refl _, by simp⟩⟩, World.ownsRow_nil _ _ _ _, ⟨by omega, by omega, Nat.le_refl _, by omega, hbl.size⟩, hbl, List.nodup_nil, by simp, by simp, by simp⟩
    have H0 := Lib.hid h0
    clear h0 HAl b0
    unfold z33 at hW1
    have hmk := @run_makeMap Try.prog
    go_wp2_with fail
    (try rw [hW1])
    rw [← hb, ← hmm]
    clear hW1 hb hmm hmk
    go_loopw [29, 6] (fun u v wr => ∃ (j : Nat) (C : List Int) (s : List Cm), j ≤ N ∧ u = .int .i64 (j : Int) ∧ (∃ Ac cc, v = .slice Ac C.length cc) ∧ BkI w w.heap.size b m j C s v wr) (fun u _ _ => N - (intOf u).toNat)
    case atStart => exact ⟨0, [], [], Nat.zero_le _, rfl, ⟨none, 0, rfl⟩, H0.out⟩
    case round =>
      rename World => V
      obtain ⟨j, C, s, hj, rfl, ⟨Ac, cc, rfl⟩, hI⟩ := hrel
      by_cases hlt : j < N
      · have d2 : decide ((j : Int) < (N : Int)) = true := by simp; omega
        have hop := HM.out j hlt
        obtain ⟨a, rfl, z0, z1, z2, _⟩ := (HA.out.below hI.bl) j (by rw [← HN.out]; exact hlt)
        have HC : Hid (∀ V, Below w.heap.size w V → V.cell? (a.add (j * 4)) = some (.int .i64 (l.getD j default).k) ∧ V.cell? ⟨(a.add (j * 4)).block, (a.add (j * 4)).off + 1, none⟩ = some (.int .i64 (l.getD j default).c) ∧ V.cell? ⟨(a.add (j * 4)).block, (a.add (j * 4)).off + 2, none⟩ = some (.int .u32 (l.getD j default).g)) := by
          intro V hV
          obtain ⟨a', e, q0, q1, q2, _⟩ := (HA.out.below hV) j (by rw [← HN.out]; exact hlt)
          cases e
          exact ⟨q0, q1, q2⟩
        generalize l.getD j default = y at *
        obtain ⟨yk, yc, yg, yr⟩ := y
        obtain ⟨hg, _⟩ := hop
        simp only at hg HC z0 z1 z2
        have j0 : (0 : Int) ≤ (j : Int) := by omega
        have j1 : (j : Int) < (N : Int) := by omega
        have ewj : IntKind.i64.wrap ((j : Int) + 1) = (j : Int) + 1 := IntWalk.i64_in _ (by omega)
        by_cases hc0 : yc < 0
        · have HF := Lib.hid hI.skip
          have d3 : decide (yc < 0) = true := decide_eq_true hc0
          clear hI HC
          go_wp2
          go_roundw
          case rel => exact ⟨j + 1, C, s, by omega, by push_cast; rfl, ⟨Ac, cc, rfl⟩, HF.out⟩
          case measure => simp [intOf]; omega
        · have d3 : decide (yc < 0) = false := decide_eq_false hc0
          by_cases hc1 : 1024 ≤ yc
          · have HF := Lib.hid hI.skip
            have d4 : decide (1024 ≤ yc) = true := decide_eq_true hc1
            clear hI HC
            go_wp2
            go_roundw
            case rel => exact ⟨j + 1, C, s, by omega, by push_cast; rfl, ⟨Ac, cc, rfl⟩, HF.out⟩
            case measure => simp [intOf]; omega
          · have d4 : decide (1024 ≤ yc) = false := decide_eq_false hc1
            obtain ⟨k, W2, hk0, hk1, lk1, mu, lk2, hb2, hyes, hno⟩ := hI.met (by omega) (c := yc) (by omega)
            have ewk : IntKind.i64.wrap (k + 1) = k + 1 := IntWalk.i64_in _ (by omega)
            obtain ⟨x0, x1, x2⟩ := HC.out W2 hb2
            have HYes := Lib.hid hyes
            have HNo := Lib.hid hno
            clear hyes hno hI hb2
            go_upto_if 61 with (fail)
            go_cut [6] (fun v wx => ∃ (C2 : List Int) (Ac2 : Option Addr) (cc2 : Nat), v = .slice Ac2 C2.length cc2 ∧ yc ∈ C2 ∧ BkI w w.heap.size b m (j + 1) C2 s v wx)
            case first =>
              by_cases hk : k = 0
              · have d5 : (k + 1 == 1) = true := by rw [hk]; rfl
                obtain ⟨v', W3, hrun, hI3⟩ := HNo.out hk
                obtain ⟨A3, c3, rfl⟩ := row_sl hI3.row
                have HI3 := Lib.hid hI3
                clear hk hI3 HYes HNo
                go_wp2_with (at_builtin; refine wpList_run rfl (.tmp 62) (.tmp 68) 61 rfl (by simp [Act.eval]) (by simp [Act.eval]) hrun ?_)
                go_meet
                have e3 : (C ++ [yc]).length = C.length + 1 := by simp
                refine ⟨C ++ [yc], A3, c3, by rw [e3], by simp, ?_⟩
                have h9 := HI3.out
                rw [e3] at h9
                exact h9
              · have d5 : (k + 1 == 1) = false := by simp; omega
                obtain ⟨hcC, hI3⟩ := HYes.out hk
                have HI3 := Lib.hid hI3
                have HcC := Lib.hid hcC
                clear hk hI3 HYes HNo hcC
                go_wp2
                go_meet
                exact ⟨C, Ac, cc, rfl, HcC.out, HI3.out⟩
            case rest =>
              obtain ⟨C2, Ac2, cc2, rfl, hcC, hI⟩ := hcut
              rename World => wc
              obtain ⟨z0, z1, z2⟩ := HC.out wc hI.bl
              by_cases hk : yk = 1
              · subst hk
                have HD : Hid (Calls Try.prog 11 #[.pointer (some ⟨b, 0, none⟩), .int .i64 yc] wc fun e w' => (∃ v, e = .returned v) ∧ ∃ s', BkI w w.heap.size b m (j + 1) C2 s' (.slice Ac2 C2.length cc2) w') := by
                  refine (drop_any hI.cl yc).mono ?_
                  rintro e w' ⟨rfl, q1, q2⟩
                  exact ⟨⟨_, rfl⟩, _, hI.turn q1 q2 (dropL_sub hI.sub)⟩
                clear hI HC HYes HNo
                go_wp2_with fail
                refine HD.out.mono ?_
                rintro e w4 ⟨⟨v, rfl⟩, s', hc⟩
                have HF := Lib.hid hc
                clear hc HD z0 z1 z2
                go_wp2
                go_roundw
                case rel => exact ⟨j + 1, C2, s', by omega, by push_cast; rfl, ⟨Ac2, cc2, rfl⟩, HF.out⟩
                case measure => simp [intOf]; omega
              · have hk' : (yk == 1) = false := by simpa using hk
                have HTT : Hid (Calls Try.prog 9 #[.pointer (some ⟨b, 0, none⟩), .int .i64 yc, .int .u32 yg] wc.drew fun e w' => (∃ v, e = .returned v) ∧ (∃ s', BkI w w.heap.size b m (j + 1) C2 s' (.slice Ac2 C2.length cc2) w') ∧ w'.cell? ⟨(a.add (j * 4)).block, (a.add (j * 4)).off + 1, none⟩ = some (.int .i64 yc) ∧ w'.cell? ⟨(a.add (j * 4)).block, (a.add (j * 4)).off + 2, none⟩ = some (.int .u32 yg)) := by
                  refine (take_any (x := ⟨yc, yg⟩) (w := wc.drew) hI.drew.cl hg).mono ?_
                  rintro e w' ⟨rfl, q1, q2⟩
                  have q3 := hI.drew.turn q1 q2 (takeL_sub hI.sub hcC)
                  obtain ⟨_, q4, q5⟩ := HC.out w' q3.bl
                  exact ⟨⟨_, rfl⟩, ⟨_, q3⟩, q4, q5⟩
                have zz : wc.drew.cell? ⟨(a.add (j * 4)).block, (a.add (j * 4)).off + 1, none⟩ = some (.int .i64 yc) ∧ wc.drew.cell? ⟨(a.add (j * 4)).block, (a.add (j * 4)).off + 2, none⟩ = some (.int .u32 yg) := ⟨z1, z2⟩
                clear hI HC HYes HNo z1 z2
                go_wp2_with fail
                go_region_held3 (fun W' => W'.cell? ⟨(a.add (j * 4)).block, (a.add (j * 4)).off + 1, none⟩ = some (.int .i64 yc) ∧ W'.cell? ⟨(a.add (j * 4)).block, (a.add (j * 4)).off + 2, none⟩ = some (.int .u32 yg)) (first | exact zz | exact ⟨h6, h7⟩) (first | (go_at_call 9; (with_reducible refine HTT.out.mono ?_); rintro e w9 ⟨⟨v9, rfl⟩, ⟨s', h5⟩, h6, h7⟩))
                have HF := Lib.hid h5
                clear h5 h6 h7 HTT zz z0
                go_wp2
                go_roundw
                case rel => exact ⟨j + 1, C2, s', by omega, by push_cast; rfl, ⟨Ac2, cc2, rfl⟩, HF.out⟩
                case measure => simp [intOf]; omega
      · obtain rfl : N = j := by omega
        have d2 : decide ((N : Int) < (N : Int)) = false := by simp
        have hok := hI.cl.1
        have HRng := Lib.hid hI.rng
        have HNod := Lib.hid hI.nod
        have HSub := Lib.hid hI.sub
        have hC100 : C.length ≤ 100 := by have := hI.len; omega
        have H1 : Hid (RcI w w.heap.size b C (.slice Ac C.length cc) s 0 (.slice none 0 0) (.slice none 0 0) V) :=
          ⟨hI.cl, hI.row, ⟨[], by rw [List.take_zero]; exact RL.nil _ _ _⟩, ⟨[], by rw [List.take_zero]; exact RL.nil _ _ _⟩, fun k e => (by cases e), ⟨hI.bd.1, Nat.le_refl _, hI.bd.2.2.2.2⟩, hI.bl⟩
        obtain ⟨n, hn⟩ : ∃ n, n = C.length := ⟨_, rfl⟩
        have HLn := Lib.hid hn
        have hn100 : n ≤ 100 := by omega
        rw [← hn] at H1 ⊢
        clear hI H0 HM HN HA hC100 hn
        go_wp2_with fail
        go_loopw [98, 8, 9] (fun u va vb wr => ∃ (i : Nat), i ≤ n ∧ u = .int .i64 (i : Int) ∧ RcI w w.heap.size b C (.slice Ac n cc) s i va vb wr) (fun u _ _ _ => n - (intOf u).toNat)
        case atStart => exact ⟨0, Nat.zero_le _, rfl, H1.out⟩
        case round =>
          rename World => V2
          obtain ⟨i, hi, rfl, hI⟩ := hrel
          by_cases hin : i < n
          · have d3 : decide ((i : Int) < (n : Int)) = true := by simp; omega
            have hiC : i < C.length := by rw [← HLn.out]; exact hin
            have hC100 : C.length ≤ 100 := by rw [← HLn.out]; exact hn100
            obtain ⟨g, rfl, z0⟩ := row_int hI.row hiC
            have i0 : (0 : Int) ≤ (i : Int) := by omega
            have i1 : (i : Int) < (n : Int) := by omega
            have HRc : Hid (Calls Try.prog 21 #[.pointer (some ⟨b, 0, none⟩), .int .i64 (C.getD i 0)] V2 fun e w' => ∃ A1 c1, e = .returned (.agg #[.int .i64 2, .int .i64 (C.getD i 0), .slice A1 (dOf s (C.getD i 0)).length c1]) ∧ ∃ v' W, (Builtin.append_ #[52, 52] 52 #[u8, .slice (some ⟨w'.heap.size, 0, none⟩) 1 1]).run Try.prog (w'.alloc (.cells #[.int .i64 2, .int .i64 (C.getD i 0), .slice A1 (dOf s (C.getD i 0)).length c1] 49)) = .ok v' W ∧
                CAt W b s ∧ W.ownsRow w.heap.size 3 1 (.slice (some ⟨g, 0, none⟩) n cc) C.length (C.map iv) ∧ (∃ l, RL s w.heap.size (C.take (i + 1)) v' l W) ∧ (∃ l, RL s w.heap.size (C.reverse.take i) u9 l W) ∧ (∀ k, v'.ownBlock = some k → u9.ownBlock ≠ some k) ∧ (w.heap.size ≤ b ∧ w.heap.size ≤ w.heap.size ∧ w.heap.size ≤ W.heap.size) ∧ Below w.heap.size w W) := by
              refine (record_any (.inr ⟨b, rfl, hI.cl⟩) (C.getD i 0)).mono ?_
              rintro e w' ⟨d, rfl, hd, hb⟩
              obtain ⟨A1, c1, rfl, v', W, q⟩ := (hI.below hb).one hiC hC100 hd
              exact ⟨A1, c1, rfl, v', W, q⟩
            clear hI H1
            generalize hci : C.getD i 0 = ci at *
            clear hci
            generalize (dOf s ci).length = dl at *
            go_wp2_with fail
            refine HRc.out.mono ?_
            rintro e V3 ⟨A1, c1, rfl, v1, V4, hrun, q1, q2, q3, q4, q5, q6, q7⟩
            obtain ⟨l1, q3⟩ := q3
            obtain ⟨Aa, ca, rfl⟩ := row_sl q3.row
            have hl1 := q3.len
            rw [List.length_take] at hl1
            have Q3 : Hid (∃ l, RL s w.heap.size (C.take (i + 1)) (.slice Aa l1.length ca) l V4) := ⟨l1, q3⟩
            have el1 : l1.length = i + 1 := by omega
            rw [el1] at Q3 q5 hrun
            clear q3 hl1 HRc z0
            obtain ⟨g', e', z1⟩ := row_int q2 (t := n - 1 - i) (by rw [← HLn.out]; omega)
            cases e'
            have ew1 : IntKind.i64.wrap ((n : Int) - 1) = (n : Int) - 1 := IntWalk.i64_in _ (by omega)
            have ew2 : IntKind.i64.wrap ((n : Int) - 1 - (i : Int)) = ((n - 1 - i : Nat) : Int) := by rw [IntWalk.i64_in _ (by omega)]; omega
            have m0 : (0 : Int) ≤ ((n - 1 - i : Nat) : Int) := by omega
            have m1 : ((n - 1 - i : Nat) : Int) < (n : Int) := by omega
            have HRd : Hid (Calls Try.prog 21 #[.pointer (some ⟨b, 0, none⟩), .int .i64 (C.getD (n - 1 - i) 0)] V4 fun e w' => ∃ A1 c1, e = .returned (.agg #[.int .i64 2, .int .i64 (C.getD (n - 1 - i) 0), .slice A1 (dOf s (C.getD (n - 1 - i) 0)).length c1]) ∧ ∃ v' W, (Builtin.append_ #[52, 52] 52 #[u9, .slice (some ⟨w'.heap.size, 0, none⟩) 1 1]).run Try.prog (w'.alloc (.cells #[.int .i64 2, .int .i64 (C.getD (n - 1 - i) 0), .slice A1 (dOf s (C.getD (n - 1 - i) 0)).length c1] 49)) = .ok v' W ∧
                RcI w w.heap.size b C (.slice (some ⟨g, 0, none⟩) n cc) s (i + 1) (.slice Aa (i + 1) ca) v' W) := by
              refine (record_any (.inr ⟨b, rfl, q1⟩) (C.getD (n - 1 - i) 0)).mono ?_
              rintro e w' ⟨d, rfl, hd, hb⟩
              have hk : Kept (fun _ => False) V4 w' := Kept.of_below hb (Nat.le_refl _)
              obtain ⟨la, Q3⟩ := Q3.out
              obtain ⟨lb, q4⟩ := q4
              have en : n - 1 - i = C.length - 1 - i := by rw [← HLn.out]
              rw [en] at hd ⊢
              obtain ⟨A1, c1, rfl, v', W, q⟩ := RcI.two (w := w) (q1.below hb) (hk.row q2 (fun _ _ => id)) ⟨la, Q3.kept hk (fun _ h => h.elim) (fun _ _ => id)⟩ ⟨lb, q4.kept hk (fun _ h => h.elim) (fun _ _ => id)⟩ q5 ⟨q6.1, q6.2.1, Nat.le_trans q6.2.2 hb.size⟩ (q7.trans (hb.mono q7.size)) hiC hC100 hd
              exact ⟨A1, c1, rfl, v', W, q⟩
            clear q1 q2 q4 q5 q6 q7 Q3 el1
            generalize C.getD (n - 1 - i) 0 = cj at *
            generalize (dOf s cj).length = dj at *
            generalize hnm : n - 1 - i = t at *
            go_wp2_with (at_builtin; refine wpList_run rfl (.tmp 101) (.tmp 108) 52 rfl (by simp [Act.eval]) (by simp [Act.eval]) hrun ?_)
            clear hrun
            refine HRd.out.mono ?_
            rintro e V5 ⟨A2, c2, rfl, v2, V6, hrun2, hI2⟩
            have HI2 := Lib.hid hI2
            clear hI2 HRd z1
            go_wp2_with (at_builtin; refine wpList_run rfl (.tmp 110) (.tmp 121) 52 rfl (by simp [Act.eval]) (by simp [Act.eval]) hrun2 ?_)
            go_roundw
            case rel => exact ⟨i + 1, by omega, by push_cast; rfl, HI2.out⟩
            case measure => simp [intOf]; omega
          · obtain rfl : i = n := by omega
            have d3 : decide ((i : Int) < (i : Int)) = false := by simp
            obtain ⟨cl, _, ⟨la, ha⟩, ⟨lb, hb⟩, _, hbd, hbl⟩ := hI
            rw [List.take_of_length_le (by rw [← HLn.out]; exact Nat.le_refl _)] at ha
            rw [List.take_of_length_le (by rw [List.length_reverse, ← HLn.out]; exact Nat.le_refl _)] at hb
            have ea : ldR la = (0, s) := ldR_recs hok HNod.out HRng.out HSub.out ha.rc
            have eb : ldR lb = (0, s) := ldR_recs hok (by rw [List.nodup_iff_pairwise_ne, List.pairwise_reverse]; exact (List.nodup_iff_pairwise_ne.1 HNod.out).imp (fun h => h.symm)) (fun c hc => HRng.out c (List.mem_reverse.1 hc)) (fun x hx => List.mem_reverse.2 (HSub.out x hx)) hb.rc
            have na := ha.len
            have nb := hb.len
            rw [List.length_reverse] at nb
            obtain ⟨Aa, ca, rfl, ra⟩ := ha.rs hok
            obtain ⟨Ab, cb, rfl, rb⟩ := hb.rs hok
            have HL1 : Hid (Calls Try.prog 24 #[.slice Aa la.length ca] V2 fun x w' => ∃ p, x = .returned (.tuple #[.pointer p, .int .i64 0]) ∧ CP w' p s ∧ CAt w' b s ∧ RsAt w' Ab lb ∧ Below w.heap.size w w') := by
              refine (load_any ra (by rw [na, ← HLn.out]; omega)).mono ?_
              rintro x w' ⟨p, rfl, _, q1, q2⟩
              rw [ea] at q1
              obtain ⟨b', rfl, hc, _⟩ := q1 rfl
              exact ⟨_, by rw [ea], .inr ⟨b', rfl, hc⟩, cl.below q2, rb.below q2, hbl.trans (q2.mono hbl.size)⟩
            have hs16 : s.length ≤ 100000 := by have := hok.len; omega
            have HAS : Hid (∀ (V : World) (p q : Option Addr), CP V p s → CP V q s → Below w.heap.size w V → Calls Try.prog 19 #[.pointer p] V fun e w' => ∃ A7 c7, e = .returned (.slice A7 s.length c7) ∧ Calls Try.prog 19 #[.pointer q] w' fun e w'' => ∃ A8 c8, e = .returned (.slice A8 s.length c8) ∧ Calls Try.prog 15 #[.slice A7 s.length c7, .slice A8 s.length c8] w'' fun e w3 => e = .returned (.bool true) ∧ Below V.heap.size V w3 ∧ Below w.heap.size w w3) := by
              intro V p q hp hq hV
              refine (all_any hp).mono ?_
              rintro e w' ⟨v7, rfl, hr7, hb7⟩
              have hI7 := IsM.of_row hr7
              obtain ⟨A7, c7, rfl⟩ := row_isM hr7
              refine ⟨A7, c7, rfl, (all_any (hq.below hb7)).mono ?_⟩
              rintro e w'' ⟨v8, rfl, hr8, hb8⟩
              have hI8 := IsM.of_row hr8
              obtain ⟨A8, c8, rfl⟩ := row_isM hr8
              refine ⟨A8, c8, rfl, (rsame_any (hI7.still (still_of hb8)) hI8 hs16).mono ?_⟩
              rintro e w3 ⟨rfl, n3, rfl⟩
              have q1 : Below V.heap.size V (w''.drewN n3) := bel_drewN (hb7.trans (hb8.mono hb7.size)) n3
              exact ⟨by simp, q1, hV.trans (q1.mono hV.size)⟩
            have Hnb : Hid (lb.length = i) := by show _ = _; rw [nb]; exact HLn.out.symm
            have elb : ldR lb = (0, s) := eb
            have Hel := Lib.hid elb
            have hla : la.length = i := by rw [na]; exact HLn.out.symm
            have hlb : lb.length = i := Hnb.out
            rw [hla] at HL1 ⊢
            rw [hlb]
            clear cl ha hb ea eb na nb ra rb hbd hbl hla hlb HRng HNod HSub HLn H1 elb
            go_wp2_with fail
            refine HL1.out.mono ?_
            rintro e V3 ⟨p1, rfl, c1, c2, rb, hbl⟩
            have HL2 : Hid (Calls Try.prog 24 #[.slice Ab i cb] V3 fun x w' => ∃ p, x = .returned (.tuple #[.pointer p, .int .i64 0]) ∧ CP w' p s ∧ CP w' p1 s ∧ CAt w' b s ∧ Below w.heap.size w w') := by
              have := load_any (cap := cb) rb (by rw [Hnb.out]; omega)
              rw [Hnb.out] at this
              refine this.mono ?_
              rintro x w' ⟨p, rfl, _, q1, q2⟩
              rw [Hel.out] at q1
              obtain ⟨b', rfl, hc, _⟩ := q1 rfl
              exact ⟨_, by rw [Hel.out], .inr ⟨b', rfl, hc⟩, c1.below q2, c2.below q2, hbl.trans (q2.mono hbl.size)⟩
            clear c1 c2 rb hbl HL1
            go_wp2_with fail
            refine HL2.out.mono ?_
            rintro e V4 ⟨p2, rfl, c2, c1, cl, hbl⟩
            have H4 := Lib.hid (HAS.out V4 p1 (some ⟨b, 0, none⟩) c1 (.inr ⟨b, rfl, cl⟩) hbl)
            have HC2 := Lib.hid c2
            have HCl := Lib.hid cl
            clear c1 c2 cl hbl HL2 hs16
            go_wp2_with fail
            refine H4.out.mono ?_
            rintro e V5 ⟨A7, c7, rfl, h5⟩
            have H5 := Lib.hid h5
            clear h5 H4
            go_wp2_with fail
            refine H5.out.mono ?_
            rintro e V6 ⟨A8, c8, rfl, h6⟩
            have H6 := Lib.hid h6
            clear h6 H5
            go_wp2_with fail
            refine H6.out.mono ?_
            rintro e V7 ⟨rfl, q1, q2⟩
            have H7 := Lib.hid (HAS.out V7 p2 (some ⟨b, 0, none⟩) (HC2.out.below q1) (.inr ⟨b, rfl, HCl.out.below q1⟩) q2)
            clear q1 q2 H6 HAS HC2 HCl
            go_wp2_with fail
            refine H7.out.mono ?_
            rintro e V8 ⟨A9, c9, rfl, h8⟩
            have H8 := Lib.hid h8
            clear h8 H7
            go_wp2_with fail
            refine H8.out.mono ?_
            rintro e V9 ⟨A10, c10, rfl, h9⟩
            have H9 := Lib.hid h9
            clear h9 H8
            go_wp2_with fail
            refine H9.out.mono ?_
            rintro e V10 ⟨rfl, _, q2⟩
            have HF := Lib.hid (HR.out _ q2)
            clear q2 H9
            go_wp2
            first | exact HF.out | (go_ret; exact HF.out)
end Go.Proofs.Ytijhkjegpcmjoaa
