/-
  Load.
-/
import Derived.Test.YtijhkjegpcmjoaaCl7
namespace Go.Proofs.Ytijhkjegpcmjoaa
set_option maxRecDepth 100000
set_option linter.unusedSimpArgs false
open Go Go.RowKit Cl

/-- What Load answers, in memory. -/
def LdQ (w : World) (l : List Rc) (e : Ending) (w' : World) : Prop :=
  ∃ p, e = .returned (.tuple #[.pointer p, .int .i64 (ldR l).1]) ∧ ((ldR l).1 ≠ 0 → p = none) ∧ ((ldR l).1 = 0 → ∃ b, p = some ⟨b, 0, none⟩ ∧ CAt w' b (ldR l).2 ∧ w.heap.size ≤ b) ∧ Below w.heap.size w w'
/-- What holds while records are read. -/
structure LdI (w : World) (l : List Rc) (b mb : Nat) (j : Nat) (x : LS) (V : World) : Prop where
  st : ldF (l.take j) = some x
  cl : CAt V b x.s
  mt : MetAt V mb x.m
  hb : w.heap.size ≤ b ∧ w.heap.size ≤ mb ∧ b ≠ mb
  bl : Below w.heap.size w V
theorem LdI.below {w V V' : World} {l : List Rc} {b mb j : Nat} {x : LS} (h : LdI w l b mb j x V) (hb : Below V.heap.size V V') : LdI w l b mb j x V' := by
  refine ⟨h.st, h.cl.below hb, h.mt.below (hb.block mb ?_), h.hb, h.bl.trans (hb.mono h.bl.size)⟩
  obtain ⟨cs, h1, _⟩ := h.mt
  exact blk_lt h1
theorem LdI.mlt {w V : World} {l : List Rc} {b mb j : Nat} {x : LS} (h : LdI w l b mb j x V) : mb < V.heap.size := by
  obtain ⟨cs, h1, _⟩ := h.mt
  exact blk_lt h1
theorem g4_in {w : World} {r : Rc} (h : DOk w r) : 0 ≤ g4 r.d ∧ g4 r.d < 4294967296 := by
  have h0 := h.2 0
  have h1 := h.2 1
  have h2 := h.2 2
  have h3 := h.2 3
  unfold g4
  omega
theorem gen_at {w : World} {r : Rc} (h : DOk w r) (h4 : r.d.length = 4) :
    Calls Try.prog 36 #[.slice r.A 4 r.cap] w fun e w' => e = .returned (.int .u32 (g4 r.d)) ∧ ∃ k, w' = w.drewN k := by
  obtain ⟨a, e, q0⟩ := h.1 0 (by omega)
  obtain ⟨a1, e1, q1⟩ := h.1 1 (by omega)
  obtain ⟨a2, e2, q2⟩ := h.1 2 (by omega)
  obtain ⟨a3, e3, q3⟩ := h.1 3 (by omega)
  rw [e] at e1 e2 e3
  cases e1
  cases e2
  cases e3
  rw [e]
  have e0 : a.add 0 = a := by simp [Addr.add]
  rw [e0] at q0
  exact gen0 (b0 := r.d.getD 0 0) (b1 := r.d.getD 1 0) (b2 := r.d.getD 2 0) (b3 := r.d.getD 3 0) q0 q1 q2 q3 (h.2 0) (h.2 1) (h.2 2) (h.2 3)
set_option maxHeartbeats 8000000 in
theorem load_any {w : World} {A : Option Addr} {l : List Rc} {cap : Nat} (h : RsAt w A l) (hl : l.length ≤ 1000000000000000) :
    Calls Try.prog 24 #[.slice A l.length cap] w (LdQ w l) := by
  have hz := Try.zero1024
  obtain ⟨b, hb⟩ : ∃ b, b = w.heap.size := ⟨_, rfl⟩
  obtain ⟨mb, hmb⟩ : ∃ mb, mb = b + 1 := ⟨_, rfl⟩
  obtain ⟨W0, hW0⟩ : ∃ W0, (w.alloc (.cells z33 29)).alloc (.cells f1024 31) = W0 := ⟨_, rfl⟩
  have h0 : LdI w l b mb 0 ⟨[], 0, []⟩ W0 := by
    have c0 := (z33_new w).below (alloc_below (w.alloc (.cells z33 29)) (.cells f1024 31))
    have m0 := MetAt.fresh (w.alloc (.cells z33 29))
    rw [World.size_alloc] at m0
    rw [hW0] at c0 m0
    refine ⟨by simp [ldF], by rw [hb]; exact c0, by rw [hmb, hb]; exact m0, ⟨by omega, by omega, by omega⟩, ?_⟩
    rw [← hW0]
    exact (alloc_below w _).trans ((alloc_below _ _).mono (by simp))
  have H0 := Lib.hid h0
  have HA := Lib.hid h
  clear h h0
  obtain ⟨N, hN⟩ : ∃ N, N = l.length := ⟨_, rfl⟩
  have HN := Lib.hid hN
  rw [← hN] at hl ⊢
  clear hN
  obtain ⟨Q, hQ⟩ : ∃ Q : Ending → World → Prop, Q = LdQ w l := ⟨_, rfl⟩
  have HQn : Hid (∀ w', ldF l = none → Below w.heap.size w w' → Q (.returned (.tuple #[.pointer none, .int .i64 130])) w') := by
    rw [hQ]
    intro w' h1 h2
    have e : ldR l = (130, []) := by unfold ldR; rw [h1]
    exact ⟨none, by rw [e], fun _ => rfl, fun h => by rw [e] at h; exact absurd h (by decide), h2⟩
  have HQe : Hid (∀ x w', ldF l = some x → x.e ≠ 0 → Below w.heap.size w w' → Q (.returned (.tuple #[.pointer none, .int .i64 x.e])) w') := by
    rw [hQ]
    intro x w' h1 h3 h2
    have e : ldR l = (x.e, []) := by unfold ldR; rw [h1]; show (if x.e = 0 then _ else _) = _; rw [if_neg h3]
    exact ⟨none, by rw [e], fun _ => rfl, fun h => by rw [e] at h; exact absurd h h3, h2⟩
  have HQs : Hid (∀ x w', ldF l = some x → x.e = 0 → CAt w' b x.s → Below w.heap.size w w' → Q (.returned (.tuple #[.pointer (some ⟨b, 0, none⟩), .int .i64 0])) w') := by
    rw [hQ]
    intro x w' h1 h3 h4 h2
    have e : ldR l = (0, x.s) := by unfold ldR; rw [h1]; show (if x.e = 0 then _ else _) = _; rw [if_pos h3]
    exact ⟨_, by rw [e], fun h => by rw [e] at h; exact absurd rfl h, fun _ => ⟨b, rfl, by rw [e]; exact h4, by omega⟩, h2⟩
  rw [← hQ]
  clear hQ
  unfold z33 at hW0
  go_enter Try.func24, Try.ntmps24
  go_upto_region 3 with (fail)
  rw [← hb, ← hmb]
  clear hW0 hz hb hmb
  go_wp2_with fail
  go_loopw [13, 5] (fun u v wr => ∃ (j : Nat) (x : LS), j ≤ N ∧ u = .int .i64 (j : Int) ∧ v = .int .i64 x.e ∧ LdI w l b mb j x wr) (fun u _ _ => N - (intOf u).toNat)
  case atStart => exact ⟨0, _, Nat.zero_le _, rfl, rfl, H0.out⟩
  case round =>
    rename World => V
    obtain ⟨j, x, hj, rfl, rfl, hI⟩ := hrel
    by_cases hlt : j < N
    · have d0 : decide ((j : Int) < (N : Int)) = true := by simp; omega
      have hjl : j < l.length := by rw [← HN.out]; exact hlt
      obtain ⟨a, rfl, ⟨z0, z1, z2⟩, hD⟩ := (HA.out.below hI.bl) j hjl
      have ew : IntKind.i64.wrap ((j : Int) + 1) = (j : Int) + 1 := IntWalk.i64_in _ (by omega)
      have j0 : (0 : Int) ≤ (j : Int) := by omega
      have j1 : (j : Int) < (N : Int) := by omega
      have HBad := Lib.hid (ldF_bad hjl hI.st)
      have HStep : Hid (∀ y, ld1 x (l.getD j default) = some y → ldF (l.take (j + 1)) = some y) := fun y => ldF_step hjl hI.st
      have HDx : Hid (∀ V, Below w.heap.size w V → DOk V (l.getD j default)) := by
        intro V hV
        obtain ⟨_, _, _, q⟩ := (HA.out.below hV) j hjl
        exact q
      generalize l.getD j default = r at *
      obtain ⟨o, ho⟩ : ∃ o : Obj, o = .cells #[.int .i64 r.k, .int .i64 r.n, .slice r.A r.d.length r.cap] 49 := ⟨_, rfl⟩
      have jb := World.alloc_heap_new V o
      have hIa := hI.below (alloc_below V o)
      have hDa := hD.below (alloc_below V o)
      have hn8 : V.heap.size ≠ b ∧ V.heap.size ≠ mb ∧ w.heap.size ≤ V.heap.size := by have := hI.cl.lt; have := hI.mlt; have := hI.bl.size; omega
      obtain ⟨Va, hVa⟩ : ∃ Va, V.alloc o = Va := ⟨_, rfl⟩
      rw [hVa] at jb
      rw [hVa] at hIa hDa
      have y0 : Va.cell? ⟨V.heap.size, 0, none⟩ = some (.int .i64 r.k) := by rw [ho] at jb; rw [blk_cell jb]; rfl
      have y1 : Va.cell? ⟨V.heap.size, 1, none⟩ = some (.int .i64 r.n) := by rw [ho] at jb; rw [blk_cell jb]; rfl
      have y2 : Va.cell? ⟨V.heap.size, 2, none⟩ = some (.slice r.A r.d.length r.cap) := by rw [ho] at jb; rw [blk_cell jb]; rfl
      have HJb := Lib.hid jb
      rw [ho] at hVa HJb
      have HIa := Lib.hid hIa
      have HDa := Lib.hid hDa
      clear jb hI hD hIa hDa ho o
      go_upto_if 19 with (fail)
      clear hVa z0 z1 z2
      generalize V.heap.size = t8 at *
      by_cases hk : r.k = 2
      · have d1 : (r.k != 2) = false := by simp [hk]
        have HR1 := Lib.hid (isRec_any Va r.k r.n r.A r.d.length r.cap)
        have HL1 : Hid (∀ y, recOk r = true → r.n ∉ x.m → upd x r = y → ldF (l.take (j + 1)) = some y) := by
          intro y h1 h2 h3
          refine HStep.out y ?_
          unfold ld1
          rw [if_neg (by simpa using hk), if_pos (by rw [h1, decide_eq_false h2]; rfl), h3]
        have HB1 : Hid ((recOk r && !decide (r.n ∈ x.m)) = false → ldF l = none) := by
          intro h1
          refine HBad.out ?_
          unfold ld1
          rw [if_neg (by simpa using hk), if_neg (by rw [h1]; decide)]
        have hrk : (isC r.n && (decide (r.d.length = 0) || decide (r.d.length = 4))) = recOk r := rfl
        rw [hrk] at HR1
        clear hrk HBad HStep hk
        go_wp2_with fail
        refine HR1.out.mono ?_
        rintro e V1 ⟨rfl, hb1⟩
        have HI1 := Lib.hid (HIa.out.below hb1)
        have HD1 := Lib.hid (HDa.out.below hb1)
        have HJ1 : Hid (V1.heap[t8]? = some (.cells #[.int .i64 r.k, .int .i64 r.n, .slice r.A r.d.length r.cap] 49 (0, 0))) := (hb1.block t8 (blk_lt HJb.out)).trans HJb.out
        clear hb1 y0 y1 y2 HIa HDa HJb HR1
        have HCel : Hid (∀ V2 : World, V2.heap[t8]? = V1.heap[t8]? → V2.cell? ⟨t8, 1, none⟩ = some (.int .i64 r.n) ∧ V2.cell? ⟨t8, 2, none⟩ = some (.slice r.A r.d.length r.cap)) := by
          intro V2 h2
          have := h2.trans HJ1.out
          exact ⟨by rw [blk_cell this]; rfl, by rw [blk_cell this]; rfl⟩
        obtain ⟨y1, y2⟩ := HCel.out V1 rfl
        cases hrec : recOk r with
        | false =>
          have HF := Lib.hid (HQn.out V1 (HB1.out (by rw [hrec]; rfl)) HI1.out.bl)
          clear HB1 HL1 hrec
          go_wp2
          first | exact HF.out | (go_ret2; exact HF.out)
        | true =>
          have hn0 : ∃ n0 : Nat, n0 < 1024 ∧ r.n = (n0 : Int) := by
            have h1 : isC r.n = true := by unfold recOk at hrec; rw [Bool.and_eq_true] at hrec; exact hrec.1
            unfold isC at h1
            simp only [Bool.and_eq_true, decide_eq_true_eq] at h1
            obtain ⟨n0, e⟩ := Int.eq_ofNat_of_zero_le h1.1
            exact ⟨n0, by omega, e⟩
          have hlen : r.d.length = 0 ∨ r.d.length = 4 := by
            unfold recOk at hrec
            simp only [Bool.and_eq_true, Bool.or_eq_true, decide_eq_true_eq] at hrec
            exact hrec.2
          obtain ⟨n0, hn1, hnr⟩ := hn0
          obtain ⟨mc0, mf0⟩ := HI1.out.mt.cell hn1
          have n00 : (0 : Int) ≤ (n0 : Int) := by omega
          have n01 : (n0 : Int) < 1024 := by omega
          by_cases hmet : (n0 : Int) ∈ x.m
          · rw [decide_eq_true hmet] at mc0
            have HF := Lib.hid (HQn.out V1 (HB1.out (by rw [hrec, hnr, decide_eq_true hmet]; rfl)) HI1.out.bl)
            rw [hnr] at y1
            clear HB1 HL1 hrec hmet hnr hlen
            go_wp2
            first | exact HF.out | (go_ret2; exact HF.out)
          · rw [decide_eq_false hmet] at mc0
            have HL2 : Hid (∀ y, upd x r = y → ldF (l.take (j + 1)) = some y) := fun y => HL1.out y hrec (by rw [hnr]; exact hmet)
            rw [hnr] at y1 HCel
            have HM2 := Lib.hid (HI1.out.mt.set hn1)
            have HK2 : Hid (Kept (fun k => k = mb) V1 (V1.setCell ⟨mb, n0, none⟩ (.bool true))) := (Kept.refl (fun k => k = mb) V1).setCell (p := ⟨mb, n0, none⟩) (.inl rfl) _
            have HC2 : Hid (CAt (V1.setCell ⟨mb, n0, none⟩ (.bool true)) b x.s) := HI1.out.cl.kept HK2.out HI1.out.hb.2.2
            have HB2 : Hid (Below w.heap.size w (V1.setCell ⟨mb, n0, none⟩ (.bool true))) := HI1.out.bl.trans (HK2.out.below (fun k h => by have := HI1.out.hb.2.1; omega) HI1.out.bl.size)
            obtain ⟨x1, x2⟩ := HCel.out (V1.setCell ⟨mb, n0, none⟩ (.bool true)) (HK2.out.block t8 (blk_lt HJ1.out) hn8.2.1)
            clear HB1 HL1 hrec hmet
            go_upto_if 35 with (fail)
            have HJ2 : Hid ((V1.setCell ⟨mb, n0, none⟩ (.bool true)).heap[t8]? = V1.heap[t8]?) := HK2.out.block t8 (blk_lt HJ1.out) hn8.2.1
            have hs8 : t8 < (V1.setCell ⟨mb, n0, none⟩ (.bool true)).heap.size := by have := blk_lt HJ1.out; have := HK2.out.size; omega
            have hbb := HI1.out.hb
            clear y1 y2 mc0 mf0 HI1 HD1 HK2
            generalize V1.setCell ⟨mb, n0, none⟩ (.bool true) = V2 at *
            rcases hlen with h0 | h4
            · have d4 : ((r.d.length : Int) == 4) = false := by rw [h0]; rfl
              have hu : upd x r = ⟨x.s, x.e, x.m ++ [(n0 : Int)]⟩ := by unfold upd; rw [h0, hnr]; rfl
              have HF : Hid (LdI w l b mb (j + 1) ⟨x.s, x.e, x.m ++ [(n0 : Int)]⟩ V2) := ⟨HL2.out _ hu, HC2.out, HM2.out, hbb, HB2.out⟩
              clear HL2 hu h0 HM2 HC2 HB2 hnr HDx HA
              go_wp2
              go_roundw
              case rel => exact ⟨j + 1, ⟨x.s, x.e, x.m ++ [(n0 : Int)]⟩, by omega, by push_cast; rfl, rfl, HF.out⟩
              case measure => simp [intOf]; omega
            · have d4 : ((r.d.length : Int) == 4) = true := by rw [h4]; rfl
              have hDr := HDx.out V2.drew HB2.out.drew
              have hg4 := g4_in hDr
              have hu : upd x r = ⟨takeL x.s ⟨n0, g4 r.d⟩, takeE x.s n0, x.m ++ [(n0 : Int)]⟩ := by unfold upd; rw [if_pos h4, if_pos h4, hnr]
              have HG := Lib.hid (gen_at hDr h4)
              have HT : Hid (∀ k, Calls Try.prog 9 #[.pointer (some ⟨b, 0, none⟩), .int .i64 (n0 : Int), .int .u32 (g4 r.d)] (V2.drewN k) fun e w' => e = .returned (.int .i64 (takeE x.s n0)) ∧ LdI w l b mb (j + 1) ⟨takeL x.s ⟨n0, g4 r.d⟩, takeE x.s n0, x.m ++ [(n0 : Int)]⟩ w' ∧ w'.cell? ⟨t8, 1, none⟩ = some (.int .i64 (n0 : Int)) ∧ w'.cell? ⟨t8, 2, none⟩ = some (.slice r.A r.d.length r.cap)) := by
                intro k
                have c1 : CAt (V2.drewN k) b x.s := HC2.out
                refine (take_any (x := ⟨n0, g4 r.d⟩) c1 hg4).mono ?_
                rintro e w' ⟨rfl, q1, q2⟩
                have m1 : MetAt (V2.drewN k) mb (x.m ++ [(n0 : Int)]) := HM2.out
                have b1 : Below w.heap.size w (V2.drewN k) := bel_drewN HB2.out k
                have m2 : MetAt w' mb (x.m ++ [(n0 : Int)]) := m1.below (q2.block mb (by obtain ⟨cs, h1, _⟩ := m1; exact blk_lt h1) (fun e => hbb.2.2 e.symm))
                obtain ⟨y1, y2⟩ := HCel.out w' ((q2.block t8 hs8 hn8.1).trans HJ2.out)
                exact ⟨rfl, ⟨HL2.out _ hu, q1, m2, hbb, b1.trans (q2.below (fun k h => by have := hbb.1; omega) b1.size)⟩, y1, y2⟩
              have zz : V2.drew.cell? ⟨t8, 1, none⟩ = some (.int .i64 (n0 : Int)) ∧ V2.drew.cell? ⟨t8, 2, none⟩ = some (.slice r.A 4 r.cap) := ⟨x1, by rw [← h4]; exact x2⟩
              have HZ : Hid (∀ k, (V2.drewN k).cell? ⟨t8, 1, none⟩ = some (.int .i64 (n0 : Int)) ∧ (V2.drewN k).cell? ⟨t8, 2, none⟩ = some (.slice r.A 4 r.cap)) := fun k => zz
              rw [h4] at HT d4 ⊢
              clear HL2 hu HM2 HC2 HB2 hnr HDx HA hDr hg4 HCel x1 x2 h4
              generalize takeE x.s n0 = te at *
              generalize g4 r.d = gg at *
              go_wp2_with fail
              go_region_held3 (fun W' => W'.cell? ⟨t8, 1, none⟩ = some (.int .i64 (n0 : Int)) ∧ W'.cell? ⟨t8, 2, none⟩ = some (.slice r.A 4 r.cap)) (first | exact zz | exact ⟨h6, h7⟩ | exact HZ.out _) (first | (go_at_call 36; (with_reducible refine HG.out.mono ?_); rintro e w8 ⟨rfl, k8, rfl⟩) | (go_at_call 9; (with_reducible refine (HT.out _).mono ?_); rintro e w9 ⟨rfl, h5, h6, h7⟩))
              have HF := Lib.hid h5
              clear h5 h6 h7 HT HG HZ zz
              go_wp2
              go_roundw
              case rel => exact ⟨j + 1, ⟨takeL x.s ⟨n0, gg⟩, te, x.m ++ [(n0 : Int)]⟩, by omega, by push_cast; rfl, rfl, HF.out⟩
              case measure => simp [intOf]; omega
      · have d1 : (r.k != 2) = true := by simpa using hk
        have hS := HStep.out x (by unfold ld1; rw [if_pos hk])
        have HF : Hid (LdI w l b mb (j + 1) x Va) := ⟨hS, HIa.out.cl, HIa.out.mt, HIa.out.hb, HIa.out.bl⟩
        clear hS HStep HBad HDa
        go_wp2
        go_roundw
        case rel => exact ⟨j + 1, x, by omega, by push_cast; rfl, rfl, HF.out⟩
        case measure => simp [intOf]; omega
    · obtain rfl : j = N := by omega
      have d0 : decide ((j : Int) < (j : Int)) = false := by simp
      have hF : ldF l = some x := by have := hI.st; rwa [List.take_of_length_le (by rw [← HN.out]; exact Nat.le_refl _)] at this
      by_cases he : x.e = 0
      · have HF := Lib.hid (HQs.out x V hF he hI.cl hI.bl)
        have d1 : (x.e != 0) = false := by simp [he]
        clear hI hF
        go_wp2
        first | exact HF.out | (go_ret2; exact HF.out)
      · have HF := Lib.hid (HQe.out x V hF he hI.bl)
        have d1 : (x.e != 0) = true := by simpa using he
        clear hI hF
        go_wp2
        first | exact HF.out | (go_ret2; exact HF.out)
end Go.Proofs.Ytijhkjegpcmjoaa
