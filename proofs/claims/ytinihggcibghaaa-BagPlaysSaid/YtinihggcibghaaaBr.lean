/-
  The law BagPlays.
-/
import Derived.Test.YtinihggcibghaaaBr0
import Derived.Test.YtinihggcibghaaaTk
import Derived.Deep.DeepCutAuto
import Derived.Deep.CutBlock
import Derived.Deep.RegionHeld3
namespace Go.Proofs.Ytinihggcibghaaa
set_option maxRecDepth 100000
set_option linter.unusedSimpArgs false
open Go Go.RowKit Bg
attribute [local go_sem] Oper.semAt_some

set_option maxHeartbeats 4000000 in
theorem plays_few {w : World} {A : Option Addr} {l : List Cl} (cap : Nat) (hO : OpsAt w A l) (hl : l.length ≤ maxLen) :
    Calls Try.prog 3 #[.slice A l.length cap] w fun e w' => e = .returned (.bool true) ∧ Below w.heap.size w w' := by
  obtain ⟨P, hP⟩ : ∃ P : Ending → World → Prop, P = fun e w' => e = .returned (.bool true) ∧ Below w.heap.size w w' := ⟨_, rfl⟩
  have HQ : Hid (∀ w', Below w.heap.size w w' → P (.returned (.bool true)) w') := by rw [hP]; exact fun w' h => ⟨rfl, h⟩
  rw [← hP]
  clear hP
  have HO := Lib.hid hO
  have HG : Hid (Calls Try.prog 10 #[.slice A l.length cap] w fun e w' => ((e = .returned (.int .i64 0) ∧ Few l) ∨ e = .returned (.int .i64 1)) ∧ w = w') := great_any cap hO hl
  obtain ⟨L, hL⟩ : ∃ L, L = l.length := ⟨_, rfl⟩
  have HL := Lib.hid hL
  rw [← hL] at HG ⊢
  clear hO hl hL
  go_enter Try.func3, Try.ntmps3
  go_wp2_with fail
  refine HG.out.mono ?_
  rintro e w2 ⟨⟨rfl, hf⟩ | rfl, rfl⟩
  · clear HG
    have hL120 : L ≤ 120 := by rw [HL.out]; exact hf.len
    have HF := Lib.hid hf.each
    clear hf
    have HN : Hid (PyI w w w.heap.size (w.heap.size + 1) 0 ((w.alloc (.cells #[.slice none 0 0, .int .i64 0, .int .i64 0, .int .i64 0, .int .i64 0, .int .i64 0, .int .i64 0, .int .i64 0] 29)).alloc (.cells #[.slice none 0 0, .int .i64 0, .int .i64 0, .int .i64 0, .int .i64 0, .int .i64 0, .int .i64 0, .int .i64 0] 32))) := ⟨zero, Two.new w w (Below.refl _ _) _ (fun k hk => hk.elim), Bd.zero _⟩
    go_wp2
    go_loopw [22] (fun i wr => ∃ j : Nat, j ≤ L ∧ i = .int .i64 (j : Int) ∧ PyI w w w.heap.size (w.heap.size + 1) j wr) (fun i _ => L - (intOf i).toNat)
    case atStart => exact ⟨0, by omega, rfl, HN.out⟩
    case round =>
      clear HN
      obtain ⟨j, hj, rfl, hI⟩ := hrel
      by_cases hlt : j < L
      · obtain ⟨b, h1, h2⟩ := hI
        have hok0 : OpOk w (l.getD j default) := by
          obtain ⟨_, _, _, h9⟩ := HO.out j (by rw [← HL.out]; exact hlt)
          exact h9
        obtain ⟨a, rfl, ⟨c0', c1', c2', c3', c4', c5'⟩, _⟩ := (HO.out.below h1.1) j (by rw [← HL.out]; exact hlt)
        have hfew := HF.out j (by rw [← HL.out]; exact hlt)
        have HD : Hid (Calls Try.prog 11 #[.pointer (some ⟨w.heap.size, 0, none⟩), .pointer (some ⟨w.heap.size + 1, 0, none⟩), opA (l.getD j default)] wr fun e w' => e = .returned (.bool true) ∧ PyI w w w.heap.size (w.heap.size + 1) (j + 1) w') :=
          (do_any h1 h2 (by omega) hok0 hfew).mono (by
            rintro e w' ⟨rfl, h4⟩
            exact ⟨rfl, _, h4, (h2.doS _ hfew.1 hok0.lt hok0.v hfew.2).mono (by omega)⟩)
        have HC1 : Hid (∀ W, Below w.heap.size w W → W.cell? ⟨(a.add (j * 6)).block, (a.add (j * 6)).off + 1, none⟩ = some (.int .i64 (l.getD j default).n)) := fun W hW => by
          obtain ⟨a2, e2, ⟨_, q1, _⟩, _⟩ := (HO.out.below hW) j (by rw [← HL.out]; exact hlt)
          injection e2 with e2
          subst e2
          exact q1
        clear h1 h2 hok0 hfew
        simp only [opA] at HD
        generalize l.getD j default = y at *
        have j0 : (0 : Int) ≤ (j : Int) := by omega
        have j1 : (j : Int) < (L : Int) := by omega
        have HLT := Lib.hid hlt
        go_wp2_with fail
        refine HD.out.mono ?_
        rintro e w3 ⟨rfl, b', h4, h5⟩
        have HT := Lib.hid h4
        have HBD := Lib.hid h5
        generalize y.n = n at *
        have q1 := HC1.out w3 h4.1
        have HFi := Lib.hid (two1_find h4 h5 n)
        clear h4 h5 HD c0' c1' c2' c3' c4' c5'
        go_wp2_with fail
        refine HFi.out.mono ?_
        rintro e w4 ⟨⟨Ax, cx, rfl, hxd, _⟩, hb4⟩
        have HXD := Lib.hid hxd
        have HB4 := Lib.hid hb4
        have hT4 := HT.out.later hb4
        have HT4 := Lib.hid hT4
        have hlx : ∀ c ∈ (finX b' n).1.d, c < 256 := by
          rcases fin_cases b' n with ⟨_, h⟩ | ⟨i, hi, _, h⟩
          · rw [h]; exact fun c hc => absurd hc List.not_mem_nil
          · rw [h, List.getD_eq_getElem?_getD, List.getElem?_eq_getElem hi]; exact (HBD.out.dat _ (List.getElem_mem _)).2
        have HLX := Lib.hid hlx
        have hki : (rfV b' n = -1 ∧ finX b' n = (noFl, false)) ∨ (∃ i : Nat, i < b'.l.length ∧ rfV b' n = (i : Int) ∧ finX b' n = (b'.l.getD i noFl, true)) := fin_cases b' n
        have HKI := Lib.hid hki
        have q2 : w4.cell? ⟨(a.add (j * 6)).block, (a.add (j * 6)).off + 1, none⟩ = some (.int .i64 n) := HC1.out w4 hT4.1
        clear q1 hxd hb4 hT4 hlx HT hki HFi
        generalize hfx : finX b' n = fx at *
        generalize hkv : rfV b' n = kv at *
        have HFX := Lib.hid hfx
        have HKV := Lib.hid hkv
        clear hfx hkv
        obtain ⟨X, isb⟩ := fx
        obtain ⟨xn, xf, xt, xd, xs⟩ := X
        simp only [flA] at *
        have hnew5 : ∀ v : Value, (w4.alloc (.cells #[.int .i64 xn, .int .i64 xf, .int .i64 xt, v, .bool xs] 38)).heap[w4.heap.size]? = some (.cells #[.int .i64 xn, .int .i64 xf, .int .i64 xt, v, .bool xs] 38 (0, 0)) := fun v => World.alloc_heap_new w4 _
        have HN5 := Lib.hid hnew5
        have HRF : Hid (∀ o : Obj, Calls Try.prog 13 #[.pointer (some ⟨w.heap.size + 1, 0, none⟩), .int .i64 n] (w4.alloc o) fun e w' => e = .returned (.int .i64 kv) ∧ w4.alloc o = w') := fun o => by
          have := two2_find (HT4.out.later ((Below.refl _ w4).alloc (Nat.le_refl _) o)) HBD.out n
          rw [HKV.out] at this
          exact this
        have q3 : ∀ o, (w4.alloc o).cell? ⟨(a.add (j * 6)).block, (a.add (j * 6)).off + 1, none⟩ = some (.int .i64 n) := fun o => HC1.out _ ((HT4.out.later ((Below.refl _ w4).alloc (Nat.le_refl _) o)).1)
        clear hnew5
        go_wp2_with fail
        refine (HRF.out _).mono ?_
        rintro e w5 ⟨rfl, rfl⟩
        have HX5' : Hid (∀ W, w4.alloc (.cells #[.int .i64 xn, .int .i64 xf, .int .i64 xt, .slice Ax xd.length cx, .bool xs] 38) = W → W.heap[w4.heap.size]? = some (.cells #[.int .i64 xn, .int .i64 xf, .int .i64 xt, .slice Ax xd.length cx, .bool xs] 38 (0, 0))) := fun W h => by rw [← h]; exact HN5.out _
        obtain ⟨w5, hw5⟩ : ∃ w5, w4.alloc (.cells #[.int .i64 xn, .int .i64 xf, .int .i64 xt, .slice Ax xd.length cx, .bool xs] 38) = w5 := ⟨_, rfl⟩
        have HX5 := Lib.hid (HX5'.out w5 hw5)
        have H45 : Hid (Below w4.heap.size w4 w5) := by rw [← hw5]; exact (Below.refl _ w4).alloc (Nat.le_refl _) _
        rw [hw5]
        have HT5 := Lib.hid (HT4.out.later H45.out)
        clear hw5 q2 q3 HX5'
        rcases HKI.out with ⟨rfl, hfe⟩ | ⟨i, hi, rfl, hfe⟩
        · have hfe2 : (Fl.mk xn xf xt xd xs = noFl) ∧ isb = false := by simpa only [Prod.mk.injEq] using hfe
          obtain ⟨hx0, rfl⟩ := hfe2
          have hx1 : xn = 0 ∧ xf = 0 ∧ xt = 0 ∧ xd = [] ∧ xs = false := by injection hx0 with h1 h2 h3 h4 h5; exact ⟨h1, h2, h3, h4, h5⟩
          have HXE := Lib.hid hx1
          clear hfe hx0 hx1
          obtain ⟨XL0, hXL0⟩ : ∃ XL0, xd.length = XL0 := ⟨_, rfl⟩
          go_wp2_with fail
          obtain ⟨w7, hw7⟩ : ∃ w7, w5.alloc (.cells #[.int .i64 0, .int .i64 0, .int .i64 0, .slice none 0 0, .bool false] 38) = w7 := ⟨_, rfl⟩
          obtain ⟨Aw, hAw⟩ : ∃ Aw : Option Addr, Aw = none := ⟨_, rfl⟩
          obtain ⟨cw, hcw⟩ : ∃ cw : Nat, cw = 0 := ⟨_, rfl⟩
          have HW7 : Hid (w5.alloc (.cells #[.int .i64 xn, .int .i64 xf, .int .i64 xt, .slice Aw xd.length cw, .bool xs] 38) = w7) := by
            obtain ⟨e1, e2, e3, e4, e5⟩ := HXE.out
            show _ = w7
            rw [e1, e2, e3, e4, e5, hAw, hcw]
            exact hw7
          have HWD : Hid (BytesAt w5 Aw xd) := by
            obtain ⟨_, _, _, e4, _⟩ := HXE.out
            rw [e4]
            exact fun j hj => absurd hj (Nat.not_lt_zero j)
          have HT7 : Hid (Two w w.heap.size (w.heap.size + 1) b' b' (fun _ => False) w w7) := HT5.out.later (by rw [← hw7]; exact (Below.refl _ w5).alloc (Nat.le_refl _) _)
          rw [hw7]
          clear hw7 hAw hcw HT5 HXE hXL0
          refine (two1_all HT7.out HBD.out).mono ?_
          rintro e w8 ⟨v, rfl, ⟨A', cap', rfl, hc1, hc2⟩, hTo⟩
          have HTO := Lib.hid hTo
          obtain ⟨Ar, capr, har, hro⟩ := hTo.two.ref HBD.out
          clear hTo
          -- behind All
          have hpk : Pk w w.heap.size (w.heap.size + 1) b' (600 * (j + 1)) w4.heap.size w5.heap.size ⟨xn, xf, xt, xd, xs⟩ Ax cx Aw cw A' cap' Ar capr w8 := by
            have hk5 : Below w4.heap.size w4 w5 := H45.out
            have hk7 : Below w5.heap.size w5 w7 := by rw [← HW7.out]; exact (Below.refl _ w5).alloc (Nat.le_refl _) _
            have hk8 := HTO.out.below
            have hxb : w8.heap[w4.heap.size]? = _ := (hk8.block _ (by have := blk_lt HX5.out; have := hk7.size; omega)).trans ((hk7.block _ (blk_lt HX5.out)).trans HX5.out)
            have hwb : w7.heap[w5.heap.size]? = some (.cells #[.int .i64 xn, .int .i64 xf, .int .i64 xt, .slice Aw xd.length cw, .bool xs] 38 (0, 0)) := by rw [← HW7.out]; exact World.alloc_heap_new w5 _
            exact ⟨HTO.out.two.any w, HBD.out, hxb, (hk8.block _ (blk_lt hwb)).trans hwb, ((HXD.out.below hk5).below hk7).below hk8, (HWD.out.below hk7).below hk8, HLX.out, HTO.out.allL rfl (fun _ _ _ => rfl) HBD.out.len (fun y hy => (HBD.out.dat y hy).2), har, hro⟩
          have HPK := Lib.hid hpk
          have HBX : Hid (∀ W2, Below w8.heap.size w8.drew W2 → ∃ g f, (0 < b'.l.length → A' = some ⟨g, 0, none⟩) ∧ Trn w w.heap.size (w.heap.size + 1) b' b'.l.length g f (fun k => w7.heap.size ≤ k ∧ k < w8.heap.size) W2) := fun W2 hb => Told.trn HT7.out HTO.out HBD.out (((Below.refl _ w8).drew).trans hb)
          clear hpk har hro HTO HT7 HXD HWD HW7 HX5 H45 HLX
          have HPW : Hid (∀ W, Below w8.heap.size w8.drew W → Pk w w.heap.size (w.heap.size + 1) b' (600 * (j + 1)) w4.heap.size w5.heap.size ⟨xn, xf, xt, xd, xs⟩ Ax cx Aw cw A' cap' Ar capr W) := fun W hW => HPK.out.on (((Below.refl _ w8).drew).trans hW)
          have HSame : Hid (∀ W, Below w8.heap.size w8.drew W → Calls Try.prog 15 #[.agg #[.int .i64 xn, .int .i64 xf, .int .i64 xt, .slice Ax xd.length cx, .bool xs], .agg #[.int .i64 xn, .int .i64 xf, .int .i64 xt, .slice Aw xd.length cw, .bool xs]] W fun e w' => e = .returned (.bool true) ∧ Below W.heap.size W w') := fun W hW => (HPW.out W hW).same
          have HAllL : Hid (∀ W, Below w8.heap.size w8.drew W → Calls Try.prog 16 #[.slice A' b'.l.length cap', .slice Ar b'.l.length capr] W fun e w' => e = .returned (.bool true) ∧ Below W.heap.size W w') := fun W hW => (HPW.out W hW).lists
          have HLen : Hid (∀ W, Below w8.heap.size w8.drew W → Calls Try.prog 17 #[.pointer (some ⟨w.heap.size, 0, none⟩)] W fun e w' => e = .returned (.int .i64 (b'.l.length : Nat)) ∧ W = w') := fun W hW => two1_len (HPW.out W hW).two
          have HCount : Hid (∀ W, Below w8.heap.size w8.drew W → Calls Try.prog 18 #[.pointer (some ⟨w.heap.size, 0, none⟩)] W fun e w' => e = .returned (ctA b'.c) ∧ Below W.heap.size W w') := fun W hW => two1_count (HPW.out W hW).two
          have HSC0 : Hid (∀ W, Below w8.heap.size w8.drew W → (fun W => (W.cell? ⟨w4.heap.size, 0, none⟩ = some (.int .i64 xn) ∧ W.cell? ⟨w4.heap.size, 1, none⟩ = some (.int .i64 xf) ∧ W.cell? ⟨w4.heap.size, 2, none⟩ = some (.int .i64 xt) ∧ W.cell? ⟨w4.heap.size, 3, none⟩ = some (.slice Ax (xd.length : Nat) cx) ∧ W.cell? ⟨w4.heap.size, 4, none⟩ = some (.bool xs)) ∧ (W.cell? ⟨w5.heap.size, 0, none⟩ = some (.int .i64 xn) ∧ W.cell? ⟨w5.heap.size, 1, none⟩ = some (.int .i64 xf) ∧ W.cell? ⟨w5.heap.size, 2, none⟩ = some (.int .i64 xt) ∧ W.cell? ⟨w5.heap.size, 3, none⟩ = some (.slice Aw (xd.length : Nat) cw) ∧ W.cell? ⟨w5.heap.size, 4, none⟩ = some (.bool xs)) ∧ (W.cell? ⟨w.heap.size + 1, 0, none⟩ = some (.slice Ar (b'.l.length : Nat) capr) ∧ W.cell? ⟨w.heap.size + 1, 2, none⟩ = some (.int .i64 (b'.c.sent : Nat)) ∧ W.cell? ⟨w.heap.size + 1, 3, none⟩ = some (.int .i64 (b'.c.del : Nat)) ∧ W.cell? ⟨w.heap.size + 1, 4, none⟩ = some (.int .i64 (b'.c.drp : Nat)) ∧ W.cell? ⟨w.heap.size + 1, 5, none⟩ = some (.int .i64 (b'.c.dbl : Nat)) ∧ W.cell? ⟨w.heap.size + 1, 6, none⟩ = some (.int .i64 (b'.c.spt : Nat)) ∧ W.cell? ⟨w.heap.size + 1, 7, none⟩ = some (.int .i64 (b'.c.lost : Nat)))) W) := fun W hW => by
            have h := HPW.out W hW
            have h1 := (five h.xb).1
            have h2 := (five h.wb).1
            obtain ⟨e0, _, e2, e3, e4, e5, e6, e7⟩ := (eight h.ro).1
            exact ⟨h1, h2, e0, e2, e3, e4, e5, e6, e7⟩
          have hN256 := HBD.out.len
          simp only [ctA] at HCount
          generalize w4.heap.size = bx at *
          generalize w5.heap.size = bw at *
          generalize hNN : b'.l.length = N at *
          generalize xd.length = XL at *
          generalize b'.c.sent = t1 at *
          generalize b'.c.del = t2 at *
          generalize b'.c.drp = t3 at *
          generalize b'.c.dbl = t4 at *
          generalize b'.c.spt = t5 at *
          generalize b'.c.lost = t6 at *
          have HSC : Hid (∀ W, Below w8.heap.size w8.drew W → (fun W => (W.cell? ⟨bx, 0, none⟩ = some (.int .i64 xn) ∧ W.cell? ⟨bx, 1, none⟩ = some (.int .i64 xf) ∧ W.cell? ⟨bx, 2, none⟩ = some (.int .i64 xt) ∧ W.cell? ⟨bx, 3, none⟩ = some (.slice Ax (XL : Nat) cx) ∧ W.cell? ⟨bx, 4, none⟩ = some (.bool xs)) ∧ (W.cell? ⟨bw, 0, none⟩ = some (.int .i64 xn) ∧ W.cell? ⟨bw, 1, none⟩ = some (.int .i64 xf) ∧ W.cell? ⟨bw, 2, none⟩ = some (.int .i64 xt) ∧ W.cell? ⟨bw, 3, none⟩ = some (.slice Aw (XL : Nat) cw) ∧ W.cell? ⟨bw, 4, none⟩ = some (.bool xs)) ∧ (W.cell? ⟨w.heap.size + 1, 0, none⟩ = some (.slice Ar (N : Nat) capr) ∧ W.cell? ⟨w.heap.size + 1, 2, none⟩ = some (.int .i64 (t1 : Nat)) ∧ W.cell? ⟨w.heap.size + 1, 3, none⟩ = some (.int .i64 (t2 : Nat)) ∧ W.cell? ⟨w.heap.size + 1, 4, none⟩ = some (.int .i64 (t3 : Nat)) ∧ W.cell? ⟨w.heap.size + 1, 5, none⟩ = some (.int .i64 (t4 : Nat)) ∧ W.cell? ⟨w.heap.size + 1, 6, none⟩ = some (.int .i64 (t5 : Nat)) ∧ W.cell? ⟨w.heap.size + 1, 7, none⟩ = some (.int .i64 (t6 : Nat)))) W) := HSC0
          clear HSC0 HPW HPK HKI HKV HFX HRF HN5 HB4 HT4 HC1
          go_wp2_with fail
          refine wp_region_held_drew (S := fun W => (W.cell? ⟨bx, 0, none⟩ = some (.int .i64 xn) ∧ W.cell? ⟨bx, 1, none⟩ = some (.int .i64 xf) ∧ W.cell? ⟨bx, 2, none⟩ = some (.int .i64 xt) ∧ W.cell? ⟨bx, 3, none⟩ = some (.slice Ax (XL : Nat) cx) ∧ W.cell? ⟨bx, 4, none⟩ = some (.bool xs)) ∧ (W.cell? ⟨bw, 0, none⟩ = some (.int .i64 xn) ∧ W.cell? ⟨bw, 1, none⟩ = some (.int .i64 xf) ∧ W.cell? ⟨bw, 2, none⟩ = some (.int .i64 xt) ∧ W.cell? ⟨bw, 3, none⟩ = some (.slice Aw (XL : Nat) cw) ∧ W.cell? ⟨bw, 4, none⟩ = some (.bool xs)) ∧ (W.cell? ⟨w.heap.size + 1, 0, none⟩ = some (.slice Ar (N : Nat) capr) ∧ W.cell? ⟨w.heap.size + 1, 2, none⟩ = some (.int .i64 (t1 : Nat)) ∧ W.cell? ⟨w.heap.size + 1, 3, none⟩ = some (.int .i64 (t2 : Nat)) ∧ W.cell? ⟨w.heap.size + 1, 4, none⟩ = some (.int .i64 (t3 : Nat)) ∧ W.cell? ⟨w.heap.size + 1, 5, none⟩ = some (.int .i64 (t4 : Nat)) ∧ W.cell? ⟨w.heap.size + 1, 6, none⟩ = some (.int .i64 (t5 : Nat)) ∧ W.cell? ⟨w.heap.size + 1, 7, none⟩ = some (.int .i64 (t6 : Nat)))) (by kernel_rfl) (HSC.out _ (Below.refl _ _)) (fun hHeld => ?_)
          simp only [List.size_toArray, List.length_cons, List.length_nil, Nat.reduceAdd, Array.replicate_succ, Array.replicate_zero, List.push_toArray, List.nil_append, List.cons_append, List.append_toArray]
          refine take_op (i := 0) (v := ?_) rfl (by kernel_rfl) (by kernel_rfl) (by kernel_rfl) (fun _ _ _ h => h) (Or.inl ⟨by rfl, ?_⟩) (by assumption) ?_
          rotate_left
          · (intro w' hSw; (try dsimp only at hSw); go_simp; (try with_reducible rfl))
          (try simp only [Act.put, List.setIfInBounds_toArray, List.set_cons_zero, List.set_cons_succ])
          refine take_op (i := 1) (v := ?_) rfl (by kernel_rfl) (by kernel_rfl) (by kernel_rfl) (fun _ _ _ h => h) (Or.inl ⟨by rfl, ?_⟩) (by assumption) ?_
          rotate_left
          · (intro w' hSw; (try dsimp only at hSw); go_simp; (try with_reducible rfl))
          (try simp only [Act.put, List.setIfInBounds_toArray, List.set_cons_zero, List.set_cons_succ])
          refine wpAnyH_ready (rs := [2]) (by kernel_rfl) (by simp) ?_
          refine cons_op rfl (fun K hK => ?_) AllReadyH.nil
          go_simp
          with_reducible refine (HSame.out _ (Below.refl _ _)).mono ?_
          rintro e v1 ⟨rfl, hb1'⟩
          have hb1 : Below w8.heap.size w8.drew v1 := hb1'
          (try go_wp2_with fail)
          refine hK.out _ _ (HSC.out _ hb1) (fun hHeld => ?_)
          clear hK K
          (try simp only [Act.put, List.setIfInBounds_toArray, List.set_cons_zero, List.set_cons_succ])
          refine take_op (i := 3) (v := ?_) rfl (by kernel_rfl) (by kernel_rfl) (by kernel_rfl) (fun _ _ _ h => h) (Or.inl ⟨by rfl, ?_⟩) (by assumption) ?_
          rotate_left
          · (intro w' hSw; (try dsimp only at hSw); go_simp; (try with_reducible rfl))
          (try simp only [Act.put, List.setIfInBounds_toArray, List.set_cons_zero, List.set_cons_succ])
          refine take_op (i := 4) (v := ?_) rfl (by kernel_rfl) (by kernel_rfl) (by kernel_rfl) (fun _ _ _ h => h) (Or.inl ⟨by rfl, ?_⟩) (by assumption) ?_
          rotate_left
          · (intro w' hSw; (try dsimp only at hSw); go_simp; (try with_reducible rfl))
          (try simp only [Act.put, List.setIfInBounds_toArray, List.set_cons_zero, List.set_cons_succ])
          refine take_op (i := 5) (v := ?_) rfl (by kernel_rfl) (by kernel_rfl) (by kernel_rfl) (fun _ _ _ h => h) (Or.inl ⟨by rfl, ?_⟩) (by assumption) ?_
          rotate_left
          · (intro w' hSw; (try dsimp only at hSw); go_simp; (try with_reducible rfl))
          (try simp only [Act.put, List.setIfInBounds_toArray, List.set_cons_zero, List.set_cons_succ])
          refine take_op (i := 6) (v := ?_) rfl (by kernel_rfl) (by kernel_rfl) (by kernel_rfl) (fun _ _ _ h => h) (Or.inl ⟨by rfl, ?_⟩) (by assumption) ?_
          rotate_left
          · (intro w' hSw; (try dsimp only at hSw); go_simp; (try with_reducible rfl))
          (try simp only [Act.put, List.setIfInBounds_toArray, List.set_cons_zero, List.set_cons_succ])
          refine take_op (i := 7) (v := ?_) rfl (by kernel_rfl) (by kernel_rfl) (by kernel_rfl) (fun _ _ _ h => h) (Or.inl ⟨by rfl, ?_⟩) (by assumption) ?_
          rotate_left
          · (intro w' hSw; (try dsimp only at hSw); go_simp; (try with_reducible rfl))
          (try simp only [Act.put, List.setIfInBounds_toArray, List.set_cons_zero, List.set_cons_succ])
          refine take_op (i := 8) (v := ?_) rfl (by kernel_rfl) (by kernel_rfl) (by kernel_rfl) (fun _ _ _ h => h) (Or.inl ⟨by rfl, ?_⟩) (by assumption) ?_
          rotate_left
          · (intro w' hSw; (try dsimp only at hSw); go_simp; (try with_reducible rfl))
          (try simp only [Act.put, List.setIfInBounds_toArray, List.set_cons_zero, List.set_cons_succ])
          refine take_op (i := 9) (v := ?_) rfl (by kernel_rfl) (by kernel_rfl) (by kernel_rfl) (fun _ _ _ h => h) (Or.inl ⟨by rfl, ?_⟩) (by assumption) ?_
          rotate_left
          · (intro w' hSw; (try dsimp only at hSw); go_simp; (try with_reducible rfl))
          (try simp only [Act.put, List.setIfInBounds_toArray, List.set_cons_zero, List.set_cons_succ])
          refine take_op (i := 10) (v := ?_) rfl (by kernel_rfl) (by kernel_rfl) (by kernel_rfl) (fun _ _ _ h => h) (Or.inl ⟨by rfl, ?_⟩) (by assumption) ?_
          rotate_left
          · (intro w' hSw; (try dsimp only at hSw); go_simp; (try with_reducible rfl))
          (try simp only [Act.put, List.setIfInBounds_toArray, List.set_cons_zero, List.set_cons_succ])
          refine take_op (i := 11) (v := ?_) rfl (by kernel_rfl) (by kernel_rfl) (by kernel_rfl) (fun _ _ _ h => h) (Or.inl ⟨by rfl, ?_⟩) (by assumption) ?_
          rotate_left
          · (intro w' hSw; (try dsimp only at hSw); go_simp; (try with_reducible rfl))
          (try simp only [Act.put, List.setIfInBounds_toArray, List.set_cons_zero, List.set_cons_succ])
          refine take_op (i := 12) (v := ?_) rfl (by kernel_rfl) (by kernel_rfl) (by kernel_rfl) (fun _ _ _ h => h) (Or.inl ⟨by rfl, ?_⟩) (by assumption) ?_
          rotate_left
          · (intro w' hSw; (try dsimp only at hSw); go_simp; (try with_reducible rfl))
          (try simp only [Act.put, List.setIfInBounds_toArray, List.set_cons_zero, List.set_cons_succ])
          refine take_op (i := 13) (v := ?_) rfl (by kernel_rfl) (by kernel_rfl) (by kernel_rfl) (fun _ _ _ h => h) (Or.inl ⟨by rfl, ?_⟩) (by assumption) ?_
          rotate_left
          · (intro w' hSw; (try dsimp only at hSw); go_simp; (try with_reducible rfl))
          (try simp only [Act.put, List.setIfInBounds_toArray, List.set_cons_zero, List.set_cons_succ])
          refine take_op (i := 14) (v := ?_) rfl (by kernel_rfl) (by kernel_rfl) (by kernel_rfl) (fun _ _ _ h => h) (Or.inl ⟨by rfl, ?_⟩) (by assumption) ?_
          rotate_left
          · (intro w' hSw; (try dsimp only at hSw); go_simp; (try with_reducible rfl))
          (try simp only [Act.put, List.setIfInBounds_toArray, List.set_cons_zero, List.set_cons_succ])
          refine take_op (i := 15) (v := ?_) rfl (by kernel_rfl) (by kernel_rfl) (by kernel_rfl) (fun _ _ _ h => h) (Or.inl ⟨by rfl, ?_⟩) (by assumption) ?_
          rotate_left
          · (intro w' hSw; (try dsimp only at hSw); go_simp; (try with_reducible rfl))
          (try simp only [Act.put, List.setIfInBounds_toArray, List.set_cons_zero, List.set_cons_succ])
          refine wpAnyH_ready (rs := [16]) (by kernel_rfl) (by simp) ?_
          refine cons_op rfl (fun K hK => ?_) AllReadyH.nil
          go_simp
          with_reducible refine (HAllL.out _ hb1).mono ?_
          rintro e v2 ⟨rfl, hb2'⟩
          have hb2 := hb1.trans (hb2'.mono hb1.size)
          (try go_wp2_with fail)
          refine hK.out _ _ (HSC.out _ hb2) (fun hHeld => ?_)
          clear hK K
          (try simp only [Act.put, List.setIfInBounds_toArray, List.set_cons_zero, List.set_cons_succ])
          refine take_op (i := 17) (v := ?_) rfl (by kernel_rfl) (by kernel_rfl) (by kernel_rfl) (fun _ _ _ h => h) (Or.inl ⟨by rfl, ?_⟩) (by assumption) ?_
          rotate_left
          · (intro w' hSw; (try dsimp only at hSw); go_simp; (try with_reducible rfl))
          (try simp only [Act.put, List.setIfInBounds_toArray, List.set_cons_zero, List.set_cons_succ])
          refine take_op (i := 18) (v := ?_) rfl (by kernel_rfl) (by kernel_rfl) (by kernel_rfl) (fun _ _ _ h => h) (Or.inl ⟨by rfl, ?_⟩) (by assumption) ?_
          rotate_left
          · (intro w' hSw; (try dsimp only at hSw); go_simp; (try with_reducible rfl))
          (try simp only [Act.put, List.setIfInBounds_toArray, List.set_cons_zero, List.set_cons_succ])
          refine take_op (i := 19) (v := ?_) rfl (by kernel_rfl) (by kernel_rfl) (by kernel_rfl) (fun _ _ _ h => h) (Or.inl ⟨by rfl, ?_⟩) (by assumption) ?_
          rotate_left
          · (intro w' hSw; (try dsimp only at hSw); go_simp; (try with_reducible rfl))
          (try simp only [Act.put, List.setIfInBounds_toArray, List.set_cons_zero, List.set_cons_succ])
          refine take_op (i := 20) (v := ?_) rfl (by kernel_rfl) (by kernel_rfl) (by kernel_rfl) (fun _ _ _ h => h) (Or.inl ⟨by rfl, ?_⟩) (by assumption) ?_
          rotate_left
          · (intro w' hSw; (try dsimp only at hSw); go_simp; (try with_reducible rfl))
          (try simp only [Act.put, List.setIfInBounds_toArray, List.set_cons_zero, List.set_cons_succ])
          refine take_op (i := 22) (v := ?_) rfl (by kernel_rfl) (by kernel_rfl) (by kernel_rfl) (fun _ _ _ h => h) (Or.inl ⟨by rfl, ?_⟩) (by assumption) ?_
          rotate_left
          · (intro w' hSw; (try dsimp only at hSw); go_simp; (try with_reducible rfl))
          (try simp only [Act.put, List.setIfInBounds_toArray, List.set_cons_zero, List.set_cons_succ])
          refine take_op (i := 23) (v := ?_) rfl (by kernel_rfl) (by kernel_rfl) (by kernel_rfl) (fun _ _ _ h => h) (Or.inl ⟨by rfl, ?_⟩) (by assumption) ?_
          rotate_left
          · (intro w' hSw; (try dsimp only at hSw); go_simp; (try with_reducible rfl))
          (try simp only [Act.put, List.setIfInBounds_toArray, List.set_cons_zero, List.set_cons_succ])
          refine take_op (i := 24) (v := ?_) rfl (by kernel_rfl) (by kernel_rfl) (by kernel_rfl) (fun _ _ _ h => h) (Or.inl ⟨by rfl, ?_⟩) (by assumption) ?_
          rotate_left
          · (intro w' hSw; (try dsimp only at hSw); go_simp; (try with_reducible rfl))
          (try simp only [Act.put, List.setIfInBounds_toArray, List.set_cons_zero, List.set_cons_succ])
          refine take_op (i := 25) (v := ?_) rfl (by kernel_rfl) (by kernel_rfl) (by kernel_rfl) (fun _ _ _ h => h) (Or.inl ⟨by rfl, ?_⟩) (by assumption) ?_
          rotate_left
          · (intro w' hSw; (try dsimp only at hSw); go_simp; (try with_reducible rfl))
          (try simp only [Act.put, List.setIfInBounds_toArray, List.set_cons_zero, List.set_cons_succ])
          refine take_op (i := 26) (v := ?_) rfl (by kernel_rfl) (by kernel_rfl) (by kernel_rfl) (fun _ _ _ h => h) (Or.inl ⟨by rfl, ?_⟩) (by assumption) ?_
          rotate_left
          · (intro w' hSw; (try dsimp only at hSw); go_simp; (try with_reducible rfl))
          (try simp only [Act.put, List.setIfInBounds_toArray, List.set_cons_zero, List.set_cons_succ])
          refine wpAnyH_ready (rs := [21]) (by kernel_rfl) (by simp) ?_
          refine cons_op rfl (fun K hK => ?_) AllReadyH.nil
          go_simp
          with_reducible refine (HLen.out _ hb2).mono ?_
          rintro e v3 ⟨rfl, rfl⟩
          (try go_wp2_with fail)
          refine hK.out _ _ (HSC.out _ hb2) (fun hHeld => ?_)
          clear hK K
          (try simp only [Act.put, List.setIfInBounds_toArray, List.set_cons_zero, List.set_cons_succ])
          refine take_op (i := 27) (v := ?_) rfl (by kernel_rfl) (by kernel_rfl) (by kernel_rfl) (fun _ _ _ h => h) (Or.inl ⟨by rfl, ?_⟩) (by assumption) ?_
          rotate_left
          · (intro w' hSw; (try dsimp only at hSw); go_simp; (try with_reducible rfl))
          (try simp only [Act.put, List.setIfInBounds_toArray, List.set_cons_zero, List.set_cons_succ])
          refine take_op (i := 28) (v := ?_) rfl (by kernel_rfl) (by kernel_rfl) (by kernel_rfl) (fun _ _ _ h => h) (Or.inl ⟨by rfl, ?_⟩) (by assumption) ?_
          rotate_left
          · (intro w' hSw; (try dsimp only at hSw); go_simp; (try with_reducible rfl))
          (try simp only [Act.put, List.setIfInBounds_toArray, List.set_cons_zero, List.set_cons_succ])
          refine take_op (i := 29) (v := ?_) rfl (by kernel_rfl) (by kernel_rfl) (by kernel_rfl) (fun _ _ _ h => h) (Or.inl ⟨by rfl, ?_⟩) (by assumption) ?_
          rotate_left
          · (intro w' hSw; (try dsimp only at hSw); go_simp; (try with_reducible rfl))
          (try simp only [Act.put, List.setIfInBounds_toArray, List.set_cons_zero, List.set_cons_succ])
          refine take_op (i := 30) (v := ?_) rfl (by kernel_rfl) (by kernel_rfl) (by kernel_rfl) (fun _ _ _ h => h) (Or.inl ⟨by rfl, ?_⟩) (by assumption) ?_
          rotate_left
          · (intro w' hSw; (try dsimp only at hSw); go_simp; (try with_reducible rfl))
          (try simp only [Act.put, List.setIfInBounds_toArray, List.set_cons_zero, List.set_cons_succ])
          refine take_op (i := 32) (v := ?_) rfl (by kernel_rfl) (by kernel_rfl) (by kernel_rfl) (fun _ _ _ h => h) (Or.inl ⟨by rfl, ?_⟩) (by assumption) ?_
          rotate_left
          · (intro w' hSw; (try dsimp only at hSw); go_simp; (try with_reducible rfl))
          (try simp only [Act.put, List.setIfInBounds_toArray, List.set_cons_zero, List.set_cons_succ])
          refine take_op (i := 33) (v := ?_) rfl (by kernel_rfl) (by kernel_rfl) (by kernel_rfl) (fun _ _ _ h => h) (Or.inl ⟨by rfl, ?_⟩) (by assumption) ?_
          rotate_left
          · (intro w' hSw; (try dsimp only at hSw); go_simp; (try with_reducible rfl))
          (try simp only [Act.put, List.setIfInBounds_toArray, List.set_cons_zero, List.set_cons_succ])
          refine take_op (i := 34) (v := ?_) rfl (by kernel_rfl) (by kernel_rfl) (by kernel_rfl) (fun _ _ _ h => h) (Or.inl ⟨by rfl, ?_⟩) (by assumption) ?_
          rotate_left
          · (intro w' hSw; (try dsimp only at hSw); go_simp; (try with_reducible rfl))
          (try simp only [Act.put, List.setIfInBounds_toArray, List.set_cons_zero, List.set_cons_succ])
          refine take_op (i := 35) (v := ?_) rfl (by kernel_rfl) (by kernel_rfl) (by kernel_rfl) (fun _ _ _ h => h) (Or.inl ⟨by rfl, ?_⟩) (by assumption) ?_
          rotate_left
          · (intro w' hSw; (try dsimp only at hSw); go_simp; (try with_reducible rfl))
          (try simp only [Act.put, List.setIfInBounds_toArray, List.set_cons_zero, List.set_cons_succ])
          refine wpAnyH_ready (rs := [31]) (by kernel_rfl) (by simp) ?_
          refine cons_op rfl (fun K hK => ?_) AllReadyH.nil
          go_simp
          with_reducible refine (HCount.out _ hb2).mono ?_
          rintro e v4 ⟨rfl, hb4'⟩
          have hb4 := hb2.trans (hb4'.mono hb2.size)
          (try go_wp2_with fail)
          refine hK.out _ _ (HSC.out _ hb4) (fun hHeld => ?_)
          clear hK K
          (try simp only [Act.put, List.setIfInBounds_toArray, List.set_cons_zero, List.set_cons_succ])
          refine take_op (i := 36) (v := ?_) rfl (by kernel_rfl) (by kernel_rfl) (by kernel_rfl) (fun _ _ _ h => h) (Or.inl ⟨by rfl, ?_⟩) (by assumption) ?_
          rotate_left
          · (intro w' hSw; (try dsimp only at hSw); go_simp; (try with_reducible rfl))
          (try simp only [Act.put, List.setIfInBounds_toArray, List.set_cons_zero, List.set_cons_succ])
          refine take_op (i := 37) (v := ?_) rfl (by kernel_rfl) (by kernel_rfl) (by kernel_rfl) (fun _ _ _ h => h) (Or.inl ⟨by rfl, ?_⟩) (by assumption) ?_
          rotate_left
          · (intro w' hSw; (try dsimp only at hSw); go_simp; (try with_reducible rfl))
          (try simp only [Act.put, List.setIfInBounds_toArray, List.set_cons_zero, List.set_cons_succ])
          refine wpAnyH_done (by kernel_rfl) ?_ _
          obtain ⟨g, f, hAg, hTr⟩ := HBX.out v4 hb4
          have HTR := Lib.hid hTr
          have HAg := Lib.hid hAg
          clear hTr hAg HSame HAllL HLen HCount HSC HBX hb1 hb2 hb4 hb1' hb2' hb4'
          go_wp2_with fail
          go_loopw [102] (fun i wz => ∃ k : Nat, k ≤ N ∧ i = .int .i64 (k : Int) ∧ Trn w w.heap.size (w.heap.size + 1) b' N g f (fun k => w7.heap.size ≤ k ∧ k < w8.heap.size) wz) (fun i _ => N - (intOf i).toNat)
          case atStart => exact ⟨0, by omega, rfl, HTR.out⟩
          case round =>
            rename World => wz
            clear HTR
            obtain ⟨k, hk, rfl, hT2⟩ := hrel
            by_cases hltk : k < N
            · have hc := hT2.cell k hltk
              have hDL : (f k).2.1 ≤ 60 := hT2.len k hltk
              obtain rfl := HAg.out (by omega)
              have HT2 := Lib.hid hT2
              have HST : Hid (∀ W, Trn w w.heap.size (w.heap.size + 1) b' N g f (fun k => w7.heap.size ≤ k ∧ k < w8.heap.size) W → ∀ q, q < (f k).2.1 → ∃ (p : Nat) (z : Int), (f k).1 = some ⟨p, 0, none⟩ ∧ W.cell? ⟨p, q, none⟩ = some (.int .u8 z) ∧ W.frozen? ⟨p, q, none⟩ = false ∧ ∀ z' : Int, Trn w w.heap.size (w.heap.size + 1) b' N g f (fun k => w7.heap.size ≤ k ∧ k < w8.heap.size) (W.setCell ⟨p, q, none⟩ (.int .u8 z'))) := fun W h q hq => h.step hltk hq
              have HCL : Hid (∀ W, Trn w w.heap.size (w.heap.size + 1) b' N g f (fun k => w7.heap.size ≤ k ∧ k < w8.heap.size) W → W.cell? ⟨g, k * 5 + 3, none⟩ = some (.slice (f k).1 (f k).2.1 (f k).2.2)) := fun W h => h.cell k hltk
              have k0 : (0 : Int) ≤ (k : Int) := by omega
              have k1 : (k : Int) < (N : Int) := by omega
              have HLK := Lib.hid hltk
              generalize (f k).1 = fa at *
              generalize (f k).2.1 = DL at *
              generalize (f k).2.2 = fc at *
              obtain ⟨PP, hPP⟩ : ∃ PP : World → Prop, PP = Trn w w.heap.size (w.heap.size + 1) b' N g f (fun k => w7.heap.size ≤ k ∧ k < w8.heap.size) := ⟨_, rfl⟩
              have HPP := Lib.hid hPP
              rw [← hPP] at HST HCL HT2 hT2
              have HFIN : Hid (∀ W, PP W → ∃ k2 : Nat, k2 ≤ N ∧ Value.int .i64 ((k : Int) + 1) = .int .i64 (k2 : Int) ∧ Trn w w.heap.size (w.heap.size + 1) b' N g f (fun k => w7.heap.size ≤ k ∧ k < w8.heap.size) W) := fun W h => ⟨k + 1, HLK.out, by push_cast; rfl, by rw [HPP.out] at h; exact h⟩
              clear hPP hT2 hltk hk
              go_wp2_with fail
              clear hc
              go_loopw [111] (fun i wy => ∃ q : Nat, q ≤ DL ∧ i = .int .i64 (q : Int) ∧ PP wy) (fun i _ => DL - (intOf i).toNat)
              case atStart => exact ⟨0, by omega, rfl, HT2.out⟩
              case round =>
                rename World => wy
                clear HT2
                obtain ⟨q, hq, rfl, hP⟩ := hrel
                by_cases hltq : q < DL
                · obtain ⟨p, z, rfl, y1, y2, hset⟩ := HST.out wy hP q hltq
                  have hcell := HCL.out wy hP
                  have hnx : ∀ z' : Int, (wy.setCell ⟨p, q, none⟩ (.int .u8 z')).cell? ⟨g, k * 5 + 3, none⟩ = some (.slice (some ⟨p, 0, none⟩) (DL : Nat) fc) := fun z' => HCL.out _ (hset z')
                  have HSET : Hid (∀ z' : Int, PP (wy.setCell ⟨p, q, none⟩ (.int .u8 z')).drew) := fun z' => by have h := hset z'; rw [HPP.out] at h ⊢; exact h.drew
                  have q0 : (0 : Int) ≤ (q : Int) := by omega
                  have q1 : (q : Int) < (DL : Int) := by omega
                  have HLQ := Lib.hid hltq
                  clear hset hP hq hltq HCL HST
                  go_wp2_with fail
                  refine wp_region_held_drew (S := fun W => W.cell? ⟨g, k * 5 + 3, none⟩ = some (.slice (some ⟨p, 0, none⟩) (DL : Nat) fc)) (by kernel_rfl) hcell (fun hHeld => ?_)
                  simp only [List.size_toArray, List.length_cons, List.length_nil, Nat.reduceAdd, Array.replicate_succ, Array.replicate_zero, List.push_toArray, List.nil_append, List.cons_append, List.append_toArray]
                  refine take_op (i := 0) (v := ?_) rfl (by kernel_rfl) (by kernel_rfl) (by kernel_rfl) (fun _ _ _ h => h) (Or.inl ⟨by rfl, ?_⟩) (by assumption) ?_
                  rotate_left
                  · (intro w' hSw; (try dsimp only at hSw); go_simp; (try with_reducible rfl))
                  (try simp only [Act.put, List.setIfInBounds_toArray, List.set_cons_zero, List.set_cons_succ])
                  refine take_op (i := 1) (v := ?_) rfl (by kernel_rfl) (by kernel_rfl) (by kernel_rfl) (fun _ _ _ h => h) (Or.inl ⟨by rfl, ?_⟩) (by assumption) ?_
                  rotate_left
                  · (intro w' hSw; (try dsimp only at hSw); go_simp; (try with_reducible rfl))
                  (try simp only [Act.put, List.setIfInBounds_toArray, List.set_cons_zero, List.set_cons_succ])
                  refine take_op (i := 2) (v := ?_) rfl (by kernel_rfl) (by kernel_rfl) (by kernel_rfl) (fun _ _ _ h => h) (Or.inl ⟨by rfl, ?_⟩) (by assumption) ?_
                  rotate_left
                  · (intro w' hSw; (try dsimp only at hSw); go_simp; (try with_reducible rfl))
                  (try simp only [Act.put, List.setIfInBounds_toArray, List.set_cons_zero, List.set_cons_succ])
                  refine take_op (i := 3) (v := ?_) rfl (by kernel_rfl) (by kernel_rfl) (by kernel_rfl) (fun _ _ _ h => h) (Or.inl ⟨by rfl, ?_⟩) (by assumption) ?_
                  rotate_left
                  · (intro w' hSw; (try dsimp only at hSw); go_simp; (try with_reducible rfl))
                  (try simp only [Act.put, List.setIfInBounds_toArray, List.set_cons_zero, List.set_cons_succ])
                  refine take_op (i := 4) (v := ?_) rfl (by kernel_rfl) (by kernel_rfl) (by kernel_rfl) (fun _ _ _ h => h) (Or.inl ⟨by rfl, ?_⟩) (by assumption) ?_
                  rotate_left
                  · (intro w' hSw; (try dsimp only at hSw); go_simp; (try with_reducible rfl))
                  (try simp only [Act.put, List.setIfInBounds_toArray, List.set_cons_zero, List.set_cons_succ])
                  refine take_op (i := 5) (v := ?_) rfl (by kernel_rfl) (by kernel_rfl) (by kernel_rfl) (fun _ _ _ h => h) (Or.inl ⟨by rfl, ?_⟩) (by assumption) ?_
                  rotate_left
                  · (intro w' hSw; (try dsimp only at hSw); go_simp; (try with_reducible rfl))
                  (try simp only [Act.put, List.setIfInBounds_toArray, List.set_cons_zero, List.set_cons_succ])
                  refine take_op (i := 6) (v := ?_) rfl (by kernel_rfl) (by kernel_rfl) (by kernel_rfl) (fun _ _ _ h => h) (Or.inl ⟨by rfl, ?_⟩) (by assumption) ?_
                  rotate_left
                  · (intro w' hSw; (try dsimp only at hSw); go_simp; (try with_reducible rfl))
                  (try simp only [Act.put, List.setIfInBounds_toArray, List.set_cons_zero, List.set_cons_succ])
                  refine take_op (i := 7) (v := ?_) rfl (by kernel_rfl) (by kernel_rfl) (by kernel_rfl) (fun _ _ _ h => h) (Or.inl ⟨by rfl, ?_⟩) (by assumption) ?_
                  rotate_left
                  · (intro w' hSw; (try dsimp only at hSw); go_simp; (try with_reducible rfl))
                  (try simp only [Act.put, List.setIfInBounds_toArray, List.set_cons_zero, List.set_cons_succ])
                  refine take_op (i := 8) (v := ?_) rfl (by kernel_rfl) (by kernel_rfl) (by kernel_rfl) (fun _ _ _ h => h) (Or.inl ⟨by rfl, ?_⟩) (by assumption) ?_
                  rotate_left
                  · (intro w' hSw; (try dsimp only at hSw); go_simp; (try with_reducible rfl))
                  (try simp only [Act.put, List.setIfInBounds_toArray, List.set_cons_zero, List.set_cons_succ])
                  refine take_op (i := 9) (v := ?_) rfl (by kernel_rfl) (by kernel_rfl) (by kernel_rfl) (fun _ _ _ h => h) (Or.inl ⟨by rfl, ?_⟩) (by assumption) ?_
                  rotate_left
                  · (intro w' hSw; (try dsimp only at hSw); go_simp; (try with_reducible rfl))
                  (try simp only [Act.put, List.setIfInBounds_toArray, List.set_cons_zero, List.set_cons_succ])
                  refine take_op (i := 10) (v := ?_) rfl (by kernel_rfl) (by kernel_rfl) (by kernel_rfl) (fun _ _ _ h => h) (Or.inl ⟨by rfl, ?_⟩) (by assumption) ?_
                  rotate_left
                  · (intro w' hSw; (try dsimp only at hSw); go_simp; (try with_reducible rfl))
                  (try simp only [Act.put, List.setIfInBounds_toArray, List.set_cons_zero, List.set_cons_succ])
                  refine take_op (i := 11) (v := ?_) rfl (by kernel_rfl) (by kernel_rfl) (by kernel_rfl) (fun _ _ _ h => h) (Or.inl ⟨by rfl, ?_⟩) (by assumption) ?_
                  rotate_left
                  · (intro w' hSw; (try dsimp only at hSw); go_simp; (try with_reducible rfl))
                  (try simp only [Act.put, List.setIfInBounds_toArray, List.set_cons_zero, List.set_cons_succ])
                  refine take_op (i := 12) (v := ?_) rfl (by kernel_rfl) (by kernel_rfl) (by kernel_rfl) (fun _ _ _ h => h) (Or.inl ⟨by rfl, ?_⟩) (by assumption) ?_
                  rotate_left
                  · (intro w' hSw; (try dsimp only at hSw); go_simp; (try with_reducible rfl))
                  (try simp only [Act.put, List.setIfInBounds_toArray, List.set_cons_zero, List.set_cons_succ])
                  refine wpAnyH_ready (rs := [13]) (by kernel_rfl) (by simp) ?_
                  refine cons_op rfl (fun K hK => ?_) AllReadyH.nil
                  go_simp
                  refine hK.out _ _ hcell (fun hHeld => ?_)
                  clear hK K
                  (try simp only [Act.put, List.setIfInBounds_toArray, List.set_cons_zero, List.set_cons_succ])
                  refine take_op (i := 14) (v := ?_) rfl (by kernel_rfl) (by kernel_rfl) (by kernel_rfl) (fun _ _ _ h => h) (Or.inl ⟨by rfl, ?_⟩) (by assumption) ?_
                  rotate_left
                  · (intro w' hSw; (try dsimp only at hSw); go_simp; (try with_reducible rfl))
                  (try simp only [Act.put, List.setIfInBounds_toArray, List.set_cons_zero, List.set_cons_succ])
                  refine take_op (i := 15) (v := ?_) rfl (by kernel_rfl) (by kernel_rfl) (by kernel_rfl) (fun _ _ _ h => h) (Or.inl ⟨by rfl, ?_⟩) (by assumption) ?_
                  rotate_left
                  · (intro w' hSw; (try dsimp only at hSw); go_simp; (try with_reducible rfl))
                  (try simp only [Act.put, List.setIfInBounds_toArray, List.set_cons_zero, List.set_cons_succ])
                  refine wpAnyH_ready (rs := [16]) (by kernel_rfl) (by simp) ?_
                  refine cons_op rfl (fun K hK => ?_) AllReadyH.nil
                  go_simp
                  refine hK.out _ _ (hnx _) (fun hHeld => ?_)
                  clear hK K
                  (try simp only [Act.put, List.setIfInBounds_toArray, List.set_cons_zero, List.set_cons_succ])
                  refine wpAnyH_done (by kernel_rfl) ?_ _
                  go_wp2
                  go_roundw
                  case rel => exact ⟨q + 1, HLQ.out, by push_cast; rfl, HSET.out _⟩
                  case measure => have := HLQ.out; simp [intOf]; omega
                · obtain rfl : q = DL := by omega
                  have HX := Lib.hid (HFIN.out wy hP)
                  clear hP HFIN HCL HST hltq hq
                  go_wp2
                  go_roundw
                  case rel => exact HX.out
                  case measure => have := HLK.out; simp [intOf]; omega
            · obtain rfl : k = N := by omega
              have HX := Lib.hid (hT2.done w)
              clear hT2 hltk hk HAg
              go_wp2
              go_roundw
              case rel => exact ⟨j + 1, HLT.out, by push_cast; rfl, b', HX.out, HBD.out⟩
              case measure => have := HLT.out; simp [intOf]; omega
        · have hfe2 : (Fl.mk xn xf xt xd xs = b'.l.getD i noFl) ∧ isb = true := by simpa only [Prod.mk.injEq] using hfe
          obtain ⟨hx0, rfl⟩ := hfe2
          have h56 : Below w5.heap.size w5 (w5.alloc (.cells #[.int .i64 0, .int .i64 0, .int .i64 0, .slice none 0 0, .bool false] 38)) := (Below.refl _ w5).alloc (Nat.le_refl _) _
          obtain ⟨Ar0, capr0, har0, hro0⟩ := HT5.out.ref HBD.out
          obtain ⟨g0, rfl, hq0⟩ := har0.at_ (by omega)
          obtain ⟨⟨z0, z1, z2, z4⟩, Aw, cw, z3, hBy⟩ := hq0.cells i hi
          rw [← hx0] at z0 z1 z2 z3 z4 hBy
          simp only [] at z0 z1 z2 z3 z4 hBy
          have kk : Kept (fun _ => False) w5 (w5.alloc (.cells #[.int .i64 0, .int .i64 0, .int .i64 0, .slice none 0 0, .bool false] 38)) := Kept.of_below h56 (Nat.le_refl _)
          replace z0 := kk.cell z0 id
          replace z1 := kk.cell z1 id
          replace z2 := kk.cell z2 id
          replace z3 := kk.cell z3 id
          replace z4 := kk.cell z4 id
          have zo := (eight ((h56.block _ (blk_lt hro0)).trans hro0)).1.1
          have i0 : (0 : Int) ≤ (i : Int) := by omega
          have i1 : (i : Int) < (b'.l.length : Int) := by omega
          have HWD := Lib.hid hBy
          clear hfe hx0 har0 hro0 hq0 hBy h56 kk
          go_wp2_with fail
          obtain ⟨w7, hw7⟩ : ∃ w7, w5.alloc (.cells #[.int .i64 xn, .int .i64 xf, .int .i64 xt, .slice Aw xd.length cw, .bool xs] 38) = w7 := ⟨_, rfl⟩
          have HW7 := Lib.hid hw7
          have HT7 : Hid (Two w w.heap.size (w.heap.size + 1) b' b' (fun _ => False) w w7) := HT5.out.later (by rw [← hw7]; exact (Below.refl _ w5).alloc (Nat.le_refl _) _)
          rw [hw7]
          have e0i : decide ((0 : Int) ≤ (i : Int)) = true := by simp
          clear hw7 HT5 z0 z1 z2 z3 z4 zo i1 hi
          refine (two1_all HT7.out HBD.out).mono ?_
          rintro e w8 ⟨v, rfl, ⟨A', cap', rfl, hc1, hc2⟩, hTo⟩
          have HTO := Lib.hid hTo
          obtain ⟨Ar, capr, har, hro⟩ := hTo.two.ref HBD.out
          clear hTo
          -- behind All
          have hpk : Pk w w.heap.size (w.heap.size + 1) b' (600 * (j + 1)) w4.heap.size w5.heap.size ⟨xn, xf, xt, xd, xs⟩ Ax cx Aw cw A' cap' Ar capr w8 := by
            have hk5 : Below w4.heap.size w4 w5 := H45.out
            have hk7 : Below w5.heap.size w5 w7 := by rw [← HW7.out]; exact (Below.refl _ w5).alloc (Nat.le_refl _) _
            have hk8 := HTO.out.below
            have hxb : w8.heap[w4.heap.size]? = _ := (hk8.block _ (by have := blk_lt HX5.out; have := hk7.size; omega)).trans ((hk7.block _ (blk_lt HX5.out)).trans HX5.out)
            have hwb : w7.heap[w5.heap.size]? = some (.cells #[.int .i64 xn, .int .i64 xf, .int .i64 xt, .slice Aw xd.length cw, .bool xs] 38 (0, 0)) := by rw [← HW7.out]; exact World.alloc_heap_new w5 _
            exact ⟨HTO.out.two.any w, HBD.out, hxb, (hk8.block _ (blk_lt hwb)).trans hwb, ((HXD.out.below hk5).below hk7).below hk8, (HWD.out.below hk7).below hk8, HLX.out, HTO.out.allL rfl (fun _ _ _ => rfl) HBD.out.len (fun y hy => (HBD.out.dat y hy).2), har, hro⟩
          have HPK := Lib.hid hpk
          have HBX : Hid (∀ W2, Below w8.heap.size w8.drew W2 → ∃ g f, (0 < b'.l.length → A' = some ⟨g, 0, none⟩) ∧ Trn w w.heap.size (w.heap.size + 1) b' b'.l.length g f (fun k => w7.heap.size ≤ k ∧ k < w8.heap.size) W2) := fun W2 hb => Told.trn HT7.out HTO.out HBD.out (((Below.refl _ w8).drew).trans hb)
          clear hpk har hro HTO HT7 HXD HWD HW7 HX5 H45 HLX
          have HPW : Hid (∀ W, Below w8.heap.size w8.drew W → Pk w w.heap.size (w.heap.size + 1) b' (600 * (j + 1)) w4.heap.size w5.heap.size ⟨xn, xf, xt, xd, xs⟩ Ax cx Aw cw A' cap' Ar capr W) := fun W hW => HPK.out.on (((Below.refl _ w8).drew).trans hW)
          have HSame : Hid (∀ W, Below w8.heap.size w8.drew W → Calls Try.prog 15 #[.agg #[.int .i64 xn, .int .i64 xf, .int .i64 xt, .slice Ax xd.length cx, .bool xs], .agg #[.int .i64 xn, .int .i64 xf, .int .i64 xt, .slice Aw xd.length cw, .bool xs]] W fun e w' => e = .returned (.bool true) ∧ Below W.heap.size W w') := fun W hW => (HPW.out W hW).same
          have HAllL : Hid (∀ W, Below w8.heap.size w8.drew W → Calls Try.prog 16 #[.slice A' b'.l.length cap', .slice Ar b'.l.length capr] W fun e w' => e = .returned (.bool true) ∧ Below W.heap.size W w') := fun W hW => (HPW.out W hW).lists
          have HLen : Hid (∀ W, Below w8.heap.size w8.drew W → Calls Try.prog 17 #[.pointer (some ⟨w.heap.size, 0, none⟩)] W fun e w' => e = .returned (.int .i64 (b'.l.length : Nat)) ∧ W = w') := fun W hW => two1_len (HPW.out W hW).two
          have HCount : Hid (∀ W, Below w8.heap.size w8.drew W → Calls Try.prog 18 #[.pointer (some ⟨w.heap.size, 0, none⟩)] W fun e w' => e = .returned (ctA b'.c) ∧ Below W.heap.size W w') := fun W hW => two1_count (HPW.out W hW).two
          have HSC0 : Hid (∀ W, Below w8.heap.size w8.drew W → (fun W => (W.cell? ⟨w4.heap.size, 0, none⟩ = some (.int .i64 xn) ∧ W.cell? ⟨w4.heap.size, 1, none⟩ = some (.int .i64 xf) ∧ W.cell? ⟨w4.heap.size, 2, none⟩ = some (.int .i64 xt) ∧ W.cell? ⟨w4.heap.size, 3, none⟩ = some (.slice Ax (xd.length : Nat) cx) ∧ W.cell? ⟨w4.heap.size, 4, none⟩ = some (.bool xs)) ∧ (W.cell? ⟨w5.heap.size, 0, none⟩ = some (.int .i64 xn) ∧ W.cell? ⟨w5.heap.size, 1, none⟩ = some (.int .i64 xf) ∧ W.cell? ⟨w5.heap.size, 2, none⟩ = some (.int .i64 xt) ∧ W.cell? ⟨w5.heap.size, 3, none⟩ = some (.slice Aw (xd.length : Nat) cw) ∧ W.cell? ⟨w5.heap.size, 4, none⟩ = some (.bool xs)) ∧ (W.cell? ⟨w.heap.size + 1, 0, none⟩ = some (.slice Ar (b'.l.length : Nat) capr) ∧ W.cell? ⟨w.heap.size + 1, 2, none⟩ = some (.int .i64 (b'.c.sent : Nat)) ∧ W.cell? ⟨w.heap.size + 1, 3, none⟩ = some (.int .i64 (b'.c.del : Nat)) ∧ W.cell? ⟨w.heap.size + 1, 4, none⟩ = some (.int .i64 (b'.c.drp : Nat)) ∧ W.cell? ⟨w.heap.size + 1, 5, none⟩ = some (.int .i64 (b'.c.dbl : Nat)) ∧ W.cell? ⟨w.heap.size + 1, 6, none⟩ = some (.int .i64 (b'.c.spt : Nat)) ∧ W.cell? ⟨w.heap.size + 1, 7, none⟩ = some (.int .i64 (b'.c.lost : Nat)))) W) := fun W hW => by
            have h := HPW.out W hW
            have h1 := (five h.xb).1
            have h2 := (five h.wb).1
            obtain ⟨e0, _, e2, e3, e4, e5, e6, e7⟩ := (eight h.ro).1
            exact ⟨h1, h2, e0, e2, e3, e4, e5, e6, e7⟩
          have hN256 := HBD.out.len
          simp only [ctA] at HCount
          generalize w4.heap.size = bx at *
          generalize w5.heap.size = bw at *
          generalize hNN : b'.l.length = N at *
          generalize xd.length = XL at *
          generalize b'.c.sent = t1 at *
          generalize b'.c.del = t2 at *
          generalize b'.c.drp = t3 at *
          generalize b'.c.dbl = t4 at *
          generalize b'.c.spt = t5 at *
          generalize b'.c.lost = t6 at *
          have HSC : Hid (∀ W, Below w8.heap.size w8.drew W → (fun W => (W.cell? ⟨bx, 0, none⟩ = some (.int .i64 xn) ∧ W.cell? ⟨bx, 1, none⟩ = some (.int .i64 xf) ∧ W.cell? ⟨bx, 2, none⟩ = some (.int .i64 xt) ∧ W.cell? ⟨bx, 3, none⟩ = some (.slice Ax (XL : Nat) cx) ∧ W.cell? ⟨bx, 4, none⟩ = some (.bool xs)) ∧ (W.cell? ⟨bw, 0, none⟩ = some (.int .i64 xn) ∧ W.cell? ⟨bw, 1, none⟩ = some (.int .i64 xf) ∧ W.cell? ⟨bw, 2, none⟩ = some (.int .i64 xt) ∧ W.cell? ⟨bw, 3, none⟩ = some (.slice Aw (XL : Nat) cw) ∧ W.cell? ⟨bw, 4, none⟩ = some (.bool xs)) ∧ (W.cell? ⟨w.heap.size + 1, 0, none⟩ = some (.slice Ar (N : Nat) capr) ∧ W.cell? ⟨w.heap.size + 1, 2, none⟩ = some (.int .i64 (t1 : Nat)) ∧ W.cell? ⟨w.heap.size + 1, 3, none⟩ = some (.int .i64 (t2 : Nat)) ∧ W.cell? ⟨w.heap.size + 1, 4, none⟩ = some (.int .i64 (t3 : Nat)) ∧ W.cell? ⟨w.heap.size + 1, 5, none⟩ = some (.int .i64 (t4 : Nat)) ∧ W.cell? ⟨w.heap.size + 1, 6, none⟩ = some (.int .i64 (t5 : Nat)) ∧ W.cell? ⟨w.heap.size + 1, 7, none⟩ = some (.int .i64 (t6 : Nat)))) W) := HSC0
          clear HSC0 HPW HPK HKI HKV HFX HRF HN5 HB4 HT4 HC1
          go_wp2_with fail
          refine wp_region_held_drew (S := fun W => (W.cell? ⟨bx, 0, none⟩ = some (.int .i64 xn) ∧ W.cell? ⟨bx, 1, none⟩ = some (.int .i64 xf) ∧ W.cell? ⟨bx, 2, none⟩ = some (.int .i64 xt) ∧ W.cell? ⟨bx, 3, none⟩ = some (.slice Ax (XL : Nat) cx) ∧ W.cell? ⟨bx, 4, none⟩ = some (.bool xs)) ∧ (W.cell? ⟨bw, 0, none⟩ = some (.int .i64 xn) ∧ W.cell? ⟨bw, 1, none⟩ = some (.int .i64 xf) ∧ W.cell? ⟨bw, 2, none⟩ = some (.int .i64 xt) ∧ W.cell? ⟨bw, 3, none⟩ = some (.slice Aw (XL : Nat) cw) ∧ W.cell? ⟨bw, 4, none⟩ = some (.bool xs)) ∧ (W.cell? ⟨w.heap.size + 1, 0, none⟩ = some (.slice Ar (N : Nat) capr) ∧ W.cell? ⟨w.heap.size + 1, 2, none⟩ = some (.int .i64 (t1 : Nat)) ∧ W.cell? ⟨w.heap.size + 1, 3, none⟩ = some (.int .i64 (t2 : Nat)) ∧ W.cell? ⟨w.heap.size + 1, 4, none⟩ = some (.int .i64 (t3 : Nat)) ∧ W.cell? ⟨w.heap.size + 1, 5, none⟩ = some (.int .i64 (t4 : Nat)) ∧ W.cell? ⟨w.heap.size + 1, 6, none⟩ = some (.int .i64 (t5 : Nat)) ∧ W.cell? ⟨w.heap.size + 1, 7, none⟩ = some (.int .i64 (t6 : Nat)))) (by kernel_rfl) (HSC.out _ (Below.refl _ _)) (fun hHeld => ?_)
          simp only [List.size_toArray, List.length_cons, List.length_nil, Nat.reduceAdd, Array.replicate_succ, Array.replicate_zero, List.push_toArray, List.nil_append, List.cons_append, List.append_toArray]
          refine take_op (i := 0) (v := ?_) rfl (by kernel_rfl) (by kernel_rfl) (by kernel_rfl) (fun _ _ _ h => h) (Or.inl ⟨by rfl, ?_⟩) (by assumption) ?_
          rotate_left
          · (intro w' hSw; (try dsimp only at hSw); go_simp; (try with_reducible rfl))
          (try simp only [Act.put, List.setIfInBounds_toArray, List.set_cons_zero, List.set_cons_succ])
          refine take_op (i := 1) (v := ?_) rfl (by kernel_rfl) (by kernel_rfl) (by kernel_rfl) (fun _ _ _ h => h) (Or.inl ⟨by rfl, ?_⟩) (by assumption) ?_
          rotate_left
          · (intro w' hSw; (try dsimp only at hSw); go_simp; (try with_reducible rfl))
          (try simp only [Act.put, List.setIfInBounds_toArray, List.set_cons_zero, List.set_cons_succ])
          refine wpAnyH_ready (rs := [2]) (by kernel_rfl) (by simp) ?_
          refine cons_op rfl (fun K hK => ?_) AllReadyH.nil
          go_simp
          with_reducible refine (HSame.out _ (Below.refl _ _)).mono ?_
          rintro e v1 ⟨rfl, hb1'⟩
          have hb1 : Below w8.heap.size w8.drew v1 := hb1'
          (try go_wp2_with fail)
          refine hK.out _ _ (HSC.out _ hb1) (fun hHeld => ?_)
          clear hK K
          (try simp only [Act.put, List.setIfInBounds_toArray, List.set_cons_zero, List.set_cons_succ])
          refine take_op (i := 3) (v := ?_) rfl (by kernel_rfl) (by kernel_rfl) (by kernel_rfl) (fun _ _ _ h => h) (Or.inl ⟨by rfl, ?_⟩) (by assumption) ?_
          rotate_left
          · (intro w' hSw; (try dsimp only at hSw); go_simp; (try with_reducible rfl))
          (try simp only [Act.put, List.setIfInBounds_toArray, List.set_cons_zero, List.set_cons_succ])
          refine take_op (i := 4) (v := ?_) rfl (by kernel_rfl) (by kernel_rfl) (by kernel_rfl) (fun _ _ _ h => h) (Or.inl ⟨by rfl, ?_⟩) (by assumption) ?_
          rotate_left
          · (intro w' hSw; (try dsimp only at hSw); go_simp; (try with_reducible rfl))
          (try simp only [Act.put, List.setIfInBounds_toArray, List.set_cons_zero, List.set_cons_succ])
          refine take_op (i := 5) (v := ?_) rfl (by kernel_rfl) (by kernel_rfl) (by kernel_rfl) (fun _ _ _ h => h) (Or.inl ⟨by rfl, ?_⟩) (by assumption) ?_
          rotate_left
          · (intro w' hSw; (try dsimp only at hSw); go_simp; (try with_reducible rfl))
          (try simp only [Act.put, List.setIfInBounds_toArray, List.set_cons_zero, List.set_cons_succ])
          refine take_op (i := 6) (v := ?_) rfl (by kernel_rfl) (by kernel_rfl) (by kernel_rfl) (fun _ _ _ h => h) (Or.inl ⟨by rfl, ?_⟩) (by assumption) ?_
          rotate_left
          · (intro w' hSw; (try dsimp only at hSw); go_simp; (try with_reducible rfl))
          (try simp only [Act.put, List.setIfInBounds_toArray, List.set_cons_zero, List.set_cons_succ])
          refine take_op (i := 7) (v := ?_) rfl (by kernel_rfl) (by kernel_rfl) (by kernel_rfl) (fun _ _ _ h => h) (Or.inl ⟨by rfl, ?_⟩) (by assumption) ?_
          rotate_left
          · (intro w' hSw; (try dsimp only at hSw); go_simp; (try with_reducible rfl))
          (try simp only [Act.put, List.setIfInBounds_toArray, List.set_cons_zero, List.set_cons_succ])
          refine take_op (i := 8) (v := ?_) rfl (by kernel_rfl) (by kernel_rfl) (by kernel_rfl) (fun _ _ _ h => h) (Or.inl ⟨by rfl, ?_⟩) (by assumption) ?_
          rotate_left
          · (intro w' hSw; (try dsimp only at hSw); go_simp; (try with_reducible rfl))
          (try simp only [Act.put, List.setIfInBounds_toArray, List.set_cons_zero, List.set_cons_succ])
          refine take_op (i := 9) (v := ?_) rfl (by kernel_rfl) (by kernel_rfl) (by kernel_rfl) (fun _ _ _ h => h) (Or.inl ⟨by rfl, ?_⟩) (by assumption) ?_
          rotate_left
          · (intro w' hSw; (try dsimp only at hSw); go_simp; (try with_reducible rfl))
          (try simp only [Act.put, List.setIfInBounds_toArray, List.set_cons_zero, List.set_cons_succ])
          refine take_op (i := 10) (v := ?_) rfl (by kernel_rfl) (by kernel_rfl) (by kernel_rfl) (fun _ _ _ h => h) (Or.inl ⟨by rfl, ?_⟩) (by assumption) ?_
          rotate_left
          · (intro w' hSw; (try dsimp only at hSw); go_simp; (try with_reducible rfl))
          (try simp only [Act.put, List.setIfInBounds_toArray, List.set_cons_zero, List.set_cons_succ])
          refine take_op (i := 11) (v := ?_) rfl (by kernel_rfl) (by kernel_rfl) (by kernel_rfl) (fun _ _ _ h => h) (Or.inl ⟨by rfl, ?_⟩) (by assumption) ?_
          rotate_left
          · (intro w' hSw; (try dsimp only at hSw); go_simp; (try with_reducible rfl))
          (try simp only [Act.put, List.setIfInBounds_toArray, List.set_cons_zero, List.set_cons_succ])
          refine take_op (i := 12) (v := ?_) rfl (by kernel_rfl) (by kernel_rfl) (by kernel_rfl) (fun _ _ _ h => h) (Or.inl ⟨by rfl, ?_⟩) (by assumption) ?_
          rotate_left
          · (intro w' hSw; (try dsimp only at hSw); go_simp; (try with_reducible rfl))
          (try simp only [Act.put, List.setIfInBounds_toArray, List.set_cons_zero, List.set_cons_succ])
          refine take_op (i := 13) (v := ?_) rfl (by kernel_rfl) (by kernel_rfl) (by kernel_rfl) (fun _ _ _ h => h) (Or.inl ⟨by rfl, ?_⟩) (by assumption) ?_
          rotate_left
          · (intro w' hSw; (try dsimp only at hSw); go_simp; (try with_reducible rfl))
          (try simp only [Act.put, List.setIfInBounds_toArray, List.set_cons_zero, List.set_cons_succ])
          refine take_op (i := 14) (v := ?_) rfl (by kernel_rfl) (by kernel_rfl) (by kernel_rfl) (fun _ _ _ h => h) (Or.inl ⟨by rfl, ?_⟩) (by assumption) ?_
          rotate_left
          · (intro w' hSw; (try dsimp only at hSw); go_simp; (try with_reducible rfl))
          (try simp only [Act.put, List.setIfInBounds_toArray, List.set_cons_zero, List.set_cons_succ])
          refine take_op (i := 15) (v := ?_) rfl (by kernel_rfl) (by kernel_rfl) (by kernel_rfl) (fun _ _ _ h => h) (Or.inl ⟨by rfl, ?_⟩) (by assumption) ?_
          rotate_left
          · (intro w' hSw; (try dsimp only at hSw); go_simp; (try with_reducible rfl))
          (try simp only [Act.put, List.setIfInBounds_toArray, List.set_cons_zero, List.set_cons_succ])
          refine wpAnyH_ready (rs := [16]) (by kernel_rfl) (by simp) ?_
          refine cons_op rfl (fun K hK => ?_) AllReadyH.nil
          go_simp
          with_reducible refine (HAllL.out _ hb1).mono ?_
          rintro e v2 ⟨rfl, hb2'⟩
          have hb2 := hb1.trans (hb2'.mono hb1.size)
          (try go_wp2_with fail)
          refine hK.out _ _ (HSC.out _ hb2) (fun hHeld => ?_)
          clear hK K
          (try simp only [Act.put, List.setIfInBounds_toArray, List.set_cons_zero, List.set_cons_succ])
          refine take_op (i := 17) (v := ?_) rfl (by kernel_rfl) (by kernel_rfl) (by kernel_rfl) (fun _ _ _ h => h) (Or.inl ⟨by rfl, ?_⟩) (by assumption) ?_
          rotate_left
          · (intro w' hSw; (try dsimp only at hSw); go_simp; (try with_reducible rfl))
          (try simp only [Act.put, List.setIfInBounds_toArray, List.set_cons_zero, List.set_cons_succ])
          refine take_op (i := 18) (v := ?_) rfl (by kernel_rfl) (by kernel_rfl) (by kernel_rfl) (fun _ _ _ h => h) (Or.inl ⟨by rfl, ?_⟩) (by assumption) ?_
          rotate_left
          · (intro w' hSw; (try dsimp only at hSw); go_simp; (try with_reducible rfl))
          (try simp only [Act.put, List.setIfInBounds_toArray, List.set_cons_zero, List.set_cons_succ])
          refine take_op (i := 19) (v := ?_) rfl (by kernel_rfl) (by kernel_rfl) (by kernel_rfl) (fun _ _ _ h => h) (Or.inl ⟨by rfl, ?_⟩) (by assumption) ?_
          rotate_left
          · (intro w' hSw; (try dsimp only at hSw); go_simp; (try with_reducible rfl))
          (try simp only [Act.put, List.setIfInBounds_toArray, List.set_cons_zero, List.set_cons_succ])
          refine take_op (i := 20) (v := ?_) rfl (by kernel_rfl) (by kernel_rfl) (by kernel_rfl) (fun _ _ _ h => h) (Or.inl ⟨by rfl, ?_⟩) (by assumption) ?_
          rotate_left
          · (intro w' hSw; (try dsimp only at hSw); go_simp; (try with_reducible rfl))
          (try simp only [Act.put, List.setIfInBounds_toArray, List.set_cons_zero, List.set_cons_succ])
          refine take_op (i := 22) (v := ?_) rfl (by kernel_rfl) (by kernel_rfl) (by kernel_rfl) (fun _ _ _ h => h) (Or.inl ⟨by rfl, ?_⟩) (by assumption) ?_
          rotate_left
          · (intro w' hSw; (try dsimp only at hSw); go_simp; (try with_reducible rfl))
          (try simp only [Act.put, List.setIfInBounds_toArray, List.set_cons_zero, List.set_cons_succ])
          refine take_op (i := 23) (v := ?_) rfl (by kernel_rfl) (by kernel_rfl) (by kernel_rfl) (fun _ _ _ h => h) (Or.inl ⟨by rfl, ?_⟩) (by assumption) ?_
          rotate_left
          · (intro w' hSw; (try dsimp only at hSw); go_simp; (try with_reducible rfl))
          (try simp only [Act.put, List.setIfInBounds_toArray, List.set_cons_zero, List.set_cons_succ])
          refine take_op (i := 24) (v := ?_) rfl (by kernel_rfl) (by kernel_rfl) (by kernel_rfl) (fun _ _ _ h => h) (Or.inl ⟨by rfl, ?_⟩) (by assumption) ?_
          rotate_left
          · (intro w' hSw; (try dsimp only at hSw); go_simp; (try with_reducible rfl))
          (try simp only [Act.put, List.setIfInBounds_toArray, List.set_cons_zero, List.set_cons_succ])
          refine take_op (i := 25) (v := ?_) rfl (by kernel_rfl) (by kernel_rfl) (by kernel_rfl) (fun _ _ _ h => h) (Or.inl ⟨by rfl, ?_⟩) (by assumption) ?_
          rotate_left
          · (intro w' hSw; (try dsimp only at hSw); go_simp; (try with_reducible rfl))
          (try simp only [Act.put, List.setIfInBounds_toArray, List.set_cons_zero, List.set_cons_succ])
          refine take_op (i := 26) (v := ?_) rfl (by kernel_rfl) (by kernel_rfl) (by kernel_rfl) (fun _ _ _ h => h) (Or.inl ⟨by rfl, ?_⟩) (by assumption) ?_
          rotate_left
          · (intro w' hSw; (try dsimp only at hSw); go_simp; (try with_reducible rfl))
          (try simp only [Act.put, List.setIfInBounds_toArray, List.set_cons_zero, List.set_cons_succ])
          refine wpAnyH_ready (rs := [21]) (by kernel_rfl) (by simp) ?_
          refine cons_op rfl (fun K hK => ?_) AllReadyH.nil
          go_simp
          with_reducible refine (HLen.out _ hb2).mono ?_
          rintro e v3 ⟨rfl, rfl⟩
          (try go_wp2_with fail)
          refine hK.out _ _ (HSC.out _ hb2) (fun hHeld => ?_)
          clear hK K
          (try simp only [Act.put, List.setIfInBounds_toArray, List.set_cons_zero, List.set_cons_succ])
          refine take_op (i := 27) (v := ?_) rfl (by kernel_rfl) (by kernel_rfl) (by kernel_rfl) (fun _ _ _ h => h) (Or.inl ⟨by rfl, ?_⟩) (by assumption) ?_
          rotate_left
          · (intro w' hSw; (try dsimp only at hSw); go_simp; (try with_reducible rfl))
          (try simp only [Act.put, List.setIfInBounds_toArray, List.set_cons_zero, List.set_cons_succ])
          refine take_op (i := 28) (v := ?_) rfl (by kernel_rfl) (by kernel_rfl) (by kernel_rfl) (fun _ _ _ h => h) (Or.inl ⟨by rfl, ?_⟩) (by assumption) ?_
          rotate_left
          · (intro w' hSw; (try dsimp only at hSw); go_simp; (try with_reducible rfl))
          (try simp only [Act.put, List.setIfInBounds_toArray, List.set_cons_zero, List.set_cons_succ])
          refine take_op (i := 29) (v := ?_) rfl (by kernel_rfl) (by kernel_rfl) (by kernel_rfl) (fun _ _ _ h => h) (Or.inl ⟨by rfl, ?_⟩) (by assumption) ?_
          rotate_left
          · (intro w' hSw; (try dsimp only at hSw); go_simp; (try with_reducible rfl))
          (try simp only [Act.put, List.setIfInBounds_toArray, List.set_cons_zero, List.set_cons_succ])
          refine take_op (i := 30) (v := ?_) rfl (by kernel_rfl) (by kernel_rfl) (by kernel_rfl) (fun _ _ _ h => h) (Or.inl ⟨by rfl, ?_⟩) (by assumption) ?_
          rotate_left
          · (intro w' hSw; (try dsimp only at hSw); go_simp; (try with_reducible rfl))
          (try simp only [Act.put, List.setIfInBounds_toArray, List.set_cons_zero, List.set_cons_succ])
          refine take_op (i := 32) (v := ?_) rfl (by kernel_rfl) (by kernel_rfl) (by kernel_rfl) (fun _ _ _ h => h) (Or.inl ⟨by rfl, ?_⟩) (by assumption) ?_
          rotate_left
          · (intro w' hSw; (try dsimp only at hSw); go_simp; (try with_reducible rfl))
          (try simp only [Act.put, List.setIfInBounds_toArray, List.set_cons_zero, List.set_cons_succ])
          refine take_op (i := 33) (v := ?_) rfl (by kernel_rfl) (by kernel_rfl) (by kernel_rfl) (fun _ _ _ h => h) (Or.inl ⟨by rfl, ?_⟩) (by assumption) ?_
          rotate_left
          · (intro w' hSw; (try dsimp only at hSw); go_simp; (try with_reducible rfl))
          (try simp only [Act.put, List.setIfInBounds_toArray, List.set_cons_zero, List.set_cons_succ])
          refine take_op (i := 34) (v := ?_) rfl (by kernel_rfl) (by kernel_rfl) (by kernel_rfl) (fun _ _ _ h => h) (Or.inl ⟨by rfl, ?_⟩) (by assumption) ?_
          rotate_left
          · (intro w' hSw; (try dsimp only at hSw); go_simp; (try with_reducible rfl))
          (try simp only [Act.put, List.setIfInBounds_toArray, List.set_cons_zero, List.set_cons_succ])
          refine take_op (i := 35) (v := ?_) rfl (by kernel_rfl) (by kernel_rfl) (by kernel_rfl) (fun _ _ _ h => h) (Or.inl ⟨by rfl, ?_⟩) (by assumption) ?_
          rotate_left
          · (intro w' hSw; (try dsimp only at hSw); go_simp; (try with_reducible rfl))
          (try simp only [Act.put, List.setIfInBounds_toArray, List.set_cons_zero, List.set_cons_succ])
          refine wpAnyH_ready (rs := [31]) (by kernel_rfl) (by simp) ?_
          refine cons_op rfl (fun K hK => ?_) AllReadyH.nil
          go_simp
          with_reducible refine (HCount.out _ hb2).mono ?_
          rintro e v4 ⟨rfl, hb4'⟩
          have hb4 := hb2.trans (hb4'.mono hb2.size)
          (try go_wp2_with fail)
          refine hK.out _ _ (HSC.out _ hb4) (fun hHeld => ?_)
          clear hK K
          (try simp only [Act.put, List.setIfInBounds_toArray, List.set_cons_zero, List.set_cons_succ])
          refine take_op (i := 36) (v := ?_) rfl (by kernel_rfl) (by kernel_rfl) (by kernel_rfl) (fun _ _ _ h => h) (Or.inl ⟨by rfl, ?_⟩) (by assumption) ?_
          rotate_left
          · (intro w' hSw; (try dsimp only at hSw); go_simp; (try with_reducible rfl))
          (try simp only [Act.put, List.setIfInBounds_toArray, List.set_cons_zero, List.set_cons_succ])
          refine take_op (i := 37) (v := ?_) rfl (by kernel_rfl) (by kernel_rfl) (by kernel_rfl) (fun _ _ _ h => h) (Or.inl ⟨by rfl, ?_⟩) (by assumption) ?_
          rotate_left
          · (intro w' hSw; (try dsimp only at hSw); go_simp; (try with_reducible rfl))
          (try simp only [Act.put, List.setIfInBounds_toArray, List.set_cons_zero, List.set_cons_succ])
          refine wpAnyH_done (by kernel_rfl) ?_ _
          obtain ⟨g, f, hAg, hTr⟩ := HBX.out v4 hb4
          have HTR := Lib.hid hTr
          have HAg := Lib.hid hAg
          clear hTr hAg HSame HAllL HLen HCount HSC HBX hb1 hb2 hb4 hb1' hb2' hb4'
          go_wp2_with fail
          go_loopw [102] (fun i wz => ∃ k : Nat, k ≤ N ∧ i = .int .i64 (k : Int) ∧ Trn w w.heap.size (w.heap.size + 1) b' N g f (fun k => w7.heap.size ≤ k ∧ k < w8.heap.size) wz) (fun i _ => N - (intOf i).toNat)
          case atStart => exact ⟨0, by omega, rfl, HTR.out⟩
          case round =>
            rename World => wz
            clear HTR
            obtain ⟨k, hk, rfl, hT2⟩ := hrel
            by_cases hltk : k < N
            · have hc := hT2.cell k hltk
              have hDL : (f k).2.1 ≤ 60 := hT2.len k hltk
              obtain rfl := HAg.out (by omega)
              have HT2 := Lib.hid hT2
              have HST : Hid (∀ W, Trn w w.heap.size (w.heap.size + 1) b' N g f (fun k => w7.heap.size ≤ k ∧ k < w8.heap.size) W → ∀ q, q < (f k).2.1 → ∃ (p : Nat) (z : Int), (f k).1 = some ⟨p, 0, none⟩ ∧ W.cell? ⟨p, q, none⟩ = some (.int .u8 z) ∧ W.frozen? ⟨p, q, none⟩ = false ∧ ∀ z' : Int, Trn w w.heap.size (w.heap.size + 1) b' N g f (fun k => w7.heap.size ≤ k ∧ k < w8.heap.size) (W.setCell ⟨p, q, none⟩ (.int .u8 z'))) := fun W h q hq => h.step hltk hq
              have HCL : Hid (∀ W, Trn w w.heap.size (w.heap.size + 1) b' N g f (fun k => w7.heap.size ≤ k ∧ k < w8.heap.size) W → W.cell? ⟨g, k * 5 + 3, none⟩ = some (.slice (f k).1 (f k).2.1 (f k).2.2)) := fun W h => h.cell k hltk
              have k0 : (0 : Int) ≤ (k : Int) := by omega
              have k1 : (k : Int) < (N : Int) := by omega
              have HLK := Lib.hid hltk
              generalize (f k).1 = fa at *
              generalize (f k).2.1 = DL at *
              generalize (f k).2.2 = fc at *
              obtain ⟨PP, hPP⟩ : ∃ PP : World → Prop, PP = Trn w w.heap.size (w.heap.size + 1) b' N g f (fun k => w7.heap.size ≤ k ∧ k < w8.heap.size) := ⟨_, rfl⟩
              have HPP := Lib.hid hPP
              rw [← hPP] at HST HCL HT2 hT2
              have HFIN : Hid (∀ W, PP W → ∃ k2 : Nat, k2 ≤ N ∧ Value.int .i64 ((k : Int) + 1) = .int .i64 (k2 : Int) ∧ Trn w w.heap.size (w.heap.size + 1) b' N g f (fun k => w7.heap.size ≤ k ∧ k < w8.heap.size) W) := fun W h => ⟨k + 1, HLK.out, by push_cast; rfl, by rw [HPP.out] at h; exact h⟩
              clear hPP hT2 hltk hk
              go_wp2_with fail
              clear hc
              go_loopw [111] (fun i wy => ∃ q : Nat, q ≤ DL ∧ i = .int .i64 (q : Int) ∧ PP wy) (fun i _ => DL - (intOf i).toNat)
              case atStart => exact ⟨0, by omega, rfl, HT2.out⟩
              case round =>
                rename World => wy
                clear HT2
                obtain ⟨q, hq, rfl, hP⟩ := hrel
                by_cases hltq : q < DL
                · obtain ⟨p, z, rfl, y1, y2, hset⟩ := HST.out wy hP q hltq
                  have hcell := HCL.out wy hP
                  have hnx : ∀ z' : Int, (wy.setCell ⟨p, q, none⟩ (.int .u8 z')).cell? ⟨g, k * 5 + 3, none⟩ = some (.slice (some ⟨p, 0, none⟩) (DL : Nat) fc) := fun z' => HCL.out _ (hset z')
                  have HSET : Hid (∀ z' : Int, PP (wy.setCell ⟨p, q, none⟩ (.int .u8 z')).drew) := fun z' => by have h := hset z'; rw [HPP.out] at h ⊢; exact h.drew
                  have q0 : (0 : Int) ≤ (q : Int) := by omega
                  have q1 : (q : Int) < (DL : Int) := by omega
                  have HLQ := Lib.hid hltq
                  clear hset hP hq hltq HCL HST
                  go_wp2_with fail
                  refine wp_region_held_drew (S := fun W => W.cell? ⟨g, k * 5 + 3, none⟩ = some (.slice (some ⟨p, 0, none⟩) (DL : Nat) fc)) (by kernel_rfl) hcell (fun hHeld => ?_)
                  simp only [List.size_toArray, List.length_cons, List.length_nil, Nat.reduceAdd, Array.replicate_succ, Array.replicate_zero, List.push_toArray, List.nil_append, List.cons_append, List.append_toArray]
                  refine take_op (i := 0) (v := ?_) rfl (by kernel_rfl) (by kernel_rfl) (by kernel_rfl) (fun _ _ _ h => h) (Or.inl ⟨by rfl, ?_⟩) (by assumption) ?_
                  rotate_left
                  · (intro w' hSw; (try dsimp only at hSw); go_simp; (try with_reducible rfl))
                  (try simp only [Act.put, List.setIfInBounds_toArray, List.set_cons_zero, List.set_cons_succ])
                  refine take_op (i := 1) (v := ?_) rfl (by kernel_rfl) (by kernel_rfl) (by kernel_rfl) (fun _ _ _ h => h) (Or.inl ⟨by rfl, ?_⟩) (by assumption) ?_
                  rotate_left
                  · (intro w' hSw; (try dsimp only at hSw); go_simp; (try with_reducible rfl))
                  (try simp only [Act.put, List.setIfInBounds_toArray, List.set_cons_zero, List.set_cons_succ])
                  refine take_op (i := 2) (v := ?_) rfl (by kernel_rfl) (by kernel_rfl) (by kernel_rfl) (fun _ _ _ h => h) (Or.inl ⟨by rfl, ?_⟩) (by assumption) ?_
                  rotate_left
                  · (intro w' hSw; (try dsimp only at hSw); go_simp; (try with_reducible rfl))
                  (try simp only [Act.put, List.setIfInBounds_toArray, List.set_cons_zero, List.set_cons_succ])
                  refine take_op (i := 3) (v := ?_) rfl (by kernel_rfl) (by kernel_rfl) (by kernel_rfl) (fun _ _ _ h => h) (Or.inl ⟨by rfl, ?_⟩) (by assumption) ?_
                  rotate_left
                  · (intro w' hSw; (try dsimp only at hSw); go_simp; (try with_reducible rfl))
                  (try simp only [Act.put, List.setIfInBounds_toArray, List.set_cons_zero, List.set_cons_succ])
                  refine take_op (i := 4) (v := ?_) rfl (by kernel_rfl) (by kernel_rfl) (by kernel_rfl) (fun _ _ _ h => h) (Or.inl ⟨by rfl, ?_⟩) (by assumption) ?_
                  rotate_left
                  · (intro w' hSw; (try dsimp only at hSw); go_simp; (try with_reducible rfl))
                  (try simp only [Act.put, List.setIfInBounds_toArray, List.set_cons_zero, List.set_cons_succ])
                  refine take_op (i := 5) (v := ?_) rfl (by kernel_rfl) (by kernel_rfl) (by kernel_rfl) (fun _ _ _ h => h) (Or.inl ⟨by rfl, ?_⟩) (by assumption) ?_
                  rotate_left
                  · (intro w' hSw; (try dsimp only at hSw); go_simp; (try with_reducible rfl))
                  (try simp only [Act.put, List.setIfInBounds_toArray, List.set_cons_zero, List.set_cons_succ])
                  refine take_op (i := 6) (v := ?_) rfl (by kernel_rfl) (by kernel_rfl) (by kernel_rfl) (fun _ _ _ h => h) (Or.inl ⟨by rfl, ?_⟩) (by assumption) ?_
                  rotate_left
                  · (intro w' hSw; (try dsimp only at hSw); go_simp; (try with_reducible rfl))
                  (try simp only [Act.put, List.setIfInBounds_toArray, List.set_cons_zero, List.set_cons_succ])
                  refine take_op (i := 7) (v := ?_) rfl (by kernel_rfl) (by kernel_rfl) (by kernel_rfl) (fun _ _ _ h => h) (Or.inl ⟨by rfl, ?_⟩) (by assumption) ?_
                  rotate_left
                  · (intro w' hSw; (try dsimp only at hSw); go_simp; (try with_reducible rfl))
                  (try simp only [Act.put, List.setIfInBounds_toArray, List.set_cons_zero, List.set_cons_succ])
                  refine take_op (i := 8) (v := ?_) rfl (by kernel_rfl) (by kernel_rfl) (by kernel_rfl) (fun _ _ _ h => h) (Or.inl ⟨by rfl, ?_⟩) (by assumption) ?_
                  rotate_left
                  · (intro w' hSw; (try dsimp only at hSw); go_simp; (try with_reducible rfl))
                  (try simp only [Act.put, List.setIfInBounds_toArray, List.set_cons_zero, List.set_cons_succ])
                  refine take_op (i := 9) (v := ?_) rfl (by kernel_rfl) (by kernel_rfl) (by kernel_rfl) (fun _ _ _ h => h) (Or.inl ⟨by rfl, ?_⟩) (by assumption) ?_
                  rotate_left
                  · (intro w' hSw; (try dsimp only at hSw); go_simp; (try with_reducible rfl))
                  (try simp only [Act.put, List.setIfInBounds_toArray, List.set_cons_zero, List.set_cons_succ])
                  refine take_op (i := 10) (v := ?_) rfl (by kernel_rfl) (by kernel_rfl) (by kernel_rfl) (fun _ _ _ h => h) (Or.inl ⟨by rfl, ?_⟩) (by assumption) ?_
                  rotate_left
                  · (intro w' hSw; (try dsimp only at hSw); go_simp; (try with_reducible rfl))
                  (try simp only [Act.put, List.setIfInBounds_toArray, List.set_cons_zero, List.set_cons_succ])
                  refine take_op (i := 11) (v := ?_) rfl (by kernel_rfl) (by kernel_rfl) (by kernel_rfl) (fun _ _ _ h => h) (Or.inl ⟨by rfl, ?_⟩) (by assumption) ?_
                  rotate_left
                  · (intro w' hSw; (try dsimp only at hSw); go_simp; (try with_reducible rfl))
                  (try simp only [Act.put, List.setIfInBounds_toArray, List.set_cons_zero, List.set_cons_succ])
                  refine take_op (i := 12) (v := ?_) rfl (by kernel_rfl) (by kernel_rfl) (by kernel_rfl) (fun _ _ _ h => h) (Or.inl ⟨by rfl, ?_⟩) (by assumption) ?_
                  rotate_left
                  · (intro w' hSw; (try dsimp only at hSw); go_simp; (try with_reducible rfl))
                  (try simp only [Act.put, List.setIfInBounds_toArray, List.set_cons_zero, List.set_cons_succ])
                  refine wpAnyH_ready (rs := [13]) (by kernel_rfl) (by simp) ?_
                  refine cons_op rfl (fun K hK => ?_) AllReadyH.nil
                  go_simp
                  refine hK.out _ _ hcell (fun hHeld => ?_)
                  clear hK K
                  (try simp only [Act.put, List.setIfInBounds_toArray, List.set_cons_zero, List.set_cons_succ])
                  refine take_op (i := 14) (v := ?_) rfl (by kernel_rfl) (by kernel_rfl) (by kernel_rfl) (fun _ _ _ h => h) (Or.inl ⟨by rfl, ?_⟩) (by assumption) ?_
                  rotate_left
                  · (intro w' hSw; (try dsimp only at hSw); go_simp; (try with_reducible rfl))
                  (try simp only [Act.put, List.setIfInBounds_toArray, List.set_cons_zero, List.set_cons_succ])
                  refine take_op (i := 15) (v := ?_) rfl (by kernel_rfl) (by kernel_rfl) (by kernel_rfl) (fun _ _ _ h => h) (Or.inl ⟨by rfl, ?_⟩) (by assumption) ?_
                  rotate_left
                  · (intro w' hSw; (try dsimp only at hSw); go_simp; (try with_reducible rfl))
                  (try simp only [Act.put, List.setIfInBounds_toArray, List.set_cons_zero, List.set_cons_succ])
                  refine wpAnyH_ready (rs := [16]) (by kernel_rfl) (by simp) ?_
                  refine cons_op rfl (fun K hK => ?_) AllReadyH.nil
                  go_simp
                  refine hK.out _ _ (hnx _) (fun hHeld => ?_)
                  clear hK K
                  (try simp only [Act.put, List.setIfInBounds_toArray, List.set_cons_zero, List.set_cons_succ])
                  refine wpAnyH_done (by kernel_rfl) ?_ _
                  go_wp2
                  go_roundw
                  case rel => exact ⟨q + 1, HLQ.out, by push_cast; rfl, HSET.out _⟩
                  case measure => have := HLQ.out; simp [intOf]; omega
                · obtain rfl : q = DL := by omega
                  have HX := Lib.hid (HFIN.out wy hP)
                  clear hP HFIN HCL HST hltq hq
                  go_wp2
                  go_roundw
                  case rel => exact HX.out
                  case measure => have := HLK.out; simp [intOf]; omega
            · obtain rfl : k = N := by omega
              have HX := Lib.hid (hT2.done w)
              clear hT2 hltk hk HAg
              go_wp2
              go_roundw
              case rel => exact ⟨j + 1, HLT.out, by push_cast; rfl, b', HX.out, HBD.out⟩
              case measure => have := HLT.out; simp [intOf]; omega
      · obtain rfl : j = L := by omega
        have HFF := Lib.hid (HQ.out _ (by obtain ⟨b, h1, _⟩ := hI; exact h1.1))
        clear hI hlt HF HL
        go_wp2
        first | exact HFF.out | (go_ret; exact HFF.out)
  · have HFF := Lib.hid (HQ.out _ (Below.refl _ _))
    clear HG
    go_wp2
    first | exact HFF.out | (go_ret; exact HFF.out)
end Go.Proofs.Ytinihggcibghaaa
