/-
  A call of both bags, whatever it is.
-/
import Derived.Test.YtinihggcibghaaaBm1
import Derived.OwnWalk
namespace Go.Proofs.Ytinihggcibghaaa
set_option maxRecDepth 100000
set_option linter.unusedSimpArgs false
open Go Go.RowKit Bg
attribute [local go_sem] Oper.semAt_some

theorem Two.pre {w0 V W w2 : World} {o1 o2 : Nat} {b : St} {F : Nat → Prop} {x : Cl} (h : Two w0 o1 o2 b b F V W) (hx : OpOk w0 x) (hf : x.d.length ≤ 60 ∧ x.many ≤ 300) {v2 : Value} (hr : w2.ownsRow (W.heap.size + 1) 5 1 v2 x.d.length (x.d.map byV)) (hg : ((W.alloc (opX x)).alloc (.cells #[] 5)).grownBy w2 (some (W.heap.size + 1))) :
    ∃ A2 cap2, v2 = .slice A2 x.d.length cap2 ∧ Pre w0 o1 o2 b F V W.heap.size x A2 cap2 (fun k => F k ∨ W.heap.size ≤ k ∧ k < w2.heap.size) w2 := by
  obtain ⟨A2, cap2, rfl, _⟩ := row_bytes (row_base hr (Nat.zero_le _))
  have hbe : Below W.heap.size W w2 := ((((Below.refl _ W).alloc (Nat.le_refl _) _).alloc (by simp) _).grown hg (by simp; omega) (fun k e => by cases e; omega))
  have hz : W.heap.size + 2 ≤ w2.heap.size := by have := hg.size; simp at this; omega
  have hlf := fun k => h.flt (k := k)
  have hle := h.le1
  refine ⟨A2, cap2, rfl, h.fresh hbe, fun k hk => ?_, ⟨.inr ⟨Nat.le_refl _, by omega⟩, fun hF => by have := hlf _ hF; omega, hle.2.2⟩, ?_, hr, fun a ha => ?_, hx, hf⟩
  · have h1 := h.blk hk
    have h2 := hlf k hk
    obtain ⟨_, _, _, _, _, _, _, _, h7⟩ := h
    exact ⟨.inl hk, (h7 k hk).1.1, (hbe.block k h2).trans h1⟩
  · rw [hg.block _ (by simp; omega) (by simp)]
    exact (Below.heap_alloc _ _ _ (by simp)).trans (World.alloc_heap_new W _)
  · have := hr.lt a.block (by rw [ha]; rfl)
    exact ⟨.inr (by omega), fun hF => by have := hlf _ hF; omega, by omega, by omega⟩

set_option maxHeartbeats 4000000 in
theorem do_any {w0 V W : World} {o1 o2 k : Nat} {b : St} {F : Nat → Prop} {x : Cl} (h : Two w0 o1 o2 b b F V W) (hb : Bd k b) (hk : k ≤ 800000) (hx : OpOk w0 x) (hf : x.d.length ≤ 60 ∧ x.many ≤ 300) :
    Calls Try.prog 11 #[.pointer (some ⟨o1, 0, none⟩), .pointer (some ⟨o2, 0, none⟩), opA x] W fun e w' => e = .returned (.bool true) ∧ Two w0 o1 o2 (doS b x) (doS b x) F V w' := by
  obtain ⟨P, hP⟩ : ∃ P : Ending → World → Prop, P = fun e w' => e = .returned (.bool true) ∧ Two w0 o1 o2 (doS b x) (doS b x) F V w' := ⟨_, rfl⟩
  have HQ : ∀ w', Two w0 o1 o2 (doS b x) (doS b x) F V w' → P (.returned (.bool true)) w' := by rw [hP]; exact fun w' h => ⟨rfl, h⟩
  have HQ0 : Hid (x.kind = 0 → ∀ w', Two w0 o1 o2 (sendN b x (manyN x)) (sendN b x (manyN x)) F V w' → P (.returned (.bool true)) w') := fun hk w' h => HQ w' (by unfold doS; rw [if_pos hk]; exact h)
  have HQ1 : Hid (x.kind = 1 → ∀ w', Two w0 o1 o2 (delS b x.n) (delS b x.n) F V w' → P (.returned (.bool true)) w') := fun hk w' h => HQ w' (by unfold doS; rw [if_neg (by omega), if_pos hk]; exact h)
  have HQ2 : Hid (x.kind = 2 → ∀ w', Two w0 o1 o2 (dropS b x.n) (dropS b x.n) F V w' → P (.returned (.bool true)) w') := fun hk w' h => HQ w' (by unfold doS; rw [if_neg (by omega), if_neg (by omega), if_pos hk]; exact h)
  have HQ3 : Hid (x.kind = 3 → ∀ w', Two w0 o1 o2 (dblS b x.n) (dblS b x.n) F V w' → P (.returned (.bool true)) w') := fun hk w' h => HQ w' (by unfold doS; rw [if_neg (by omega), if_neg (by omega), if_neg (by omega), if_pos hk]; exact h)
  have HQ4 : Hid (x.kind = 4 → ∀ w', Two w0 o1 o2 (spoilS b x.n x.at_ x.v) (spoilS b x.n x.at_ x.v) F V w' → P (.returned (.bool true)) w') := fun hk w' h => HQ w' (by unfold doS; rw [if_neg (by omega), if_neg (by omega), if_neg (by omega), if_neg (by omega), if_pos hk]; exact h)
  have HQ5 : Hid (x.kind ≠ 0 → x.kind ≠ 1 → x.kind ≠ 2 → x.kind ≠ 3 → x.kind ≠ 4 → ∀ w', Two w0 o1 o2 b b F V w' → P (.returned (.bool true)) w') := fun h0 h1 h2 h3 h4 w' h => HQ w' (by unfold doS; rw [if_neg h0, if_neg h1, if_neg h2, if_neg h3, if_neg h4]; exact h)
  clear HQ
  rw [← hP]
  clear hP
  have HPRE : Hid (∀ v2 w2, w2.ownsRow (W.heap.size + 1) 5 1 v2 x.d.length (x.d.map byV) → ((W.alloc (opX x)).alloc (.cells #[] 5)).grownBy w2 (some (W.heap.size + 1)) → ∃ A2 cap2, v2 = .slice A2 x.d.length cap2 ∧ Pre w0 o1 o2 b F V W.heap.size x A2 cap2 (fun k => F k ∨ W.heap.size ≤ k ∧ k < w2.heap.size) w2) := fun v2 w2 hr hg => h.pre hx hf hr hg
  have HBY : Hid (BytesAt ((W.alloc (opX x)).alloc (.cells #[] 5)) x.A x.d) := ((hx.dat.below h.1).below ((Below.refl _ W).alloc (Nat.le_refl _) _)).below ((Below.refl _ _).alloc (Nat.le_refl _) _)
  have HNN := Lib.hid hx.nil
  have h60 := hf.1
  have HBd := Lib.hid hb
  have HOW : Hid (((W.alloc (opX x)).alloc (.cells #[] 5)).ownsRow (W.heap.size + 1) 5 1 (.slice (some ⟨W.heap.size + 1, 0, none⟩) 0 0) 0 (([] : List Nat).map byV)) := by
    have := World.ownsRow_made (e := 5) (size := 1) (W.alloc (opX x)) #[] 0 (base := W.heap.size + 1) (by simp) (Nat.zero_le _) (by simp)
    rw [World.size_alloc] at this
    exact this
  clear h hb hx
  simp only [opA]
  obtain ⟨DL, hDL⟩ : ∃ DL, DL = x.d.length := ⟨_, rfl⟩
  simp only [opX, ← hDL] at HPRE HBY HOW h60 hf ⊢
  have HDL := Lib.hid hDL
  clear hDL
  go_enter Try.func11, Try.ntmps11
  go_wp2_with (at_builtin; go_loud (refine wpList_append_bytes rfl (.tmp 20) (.tmp 22) rfl (W.heap.size + 1) (n := 0) (L := []) rfl HOW.out (m := DL) (news := x.d) rfl HBY.out HDL.out HNN.out (by omega) (by simp) ?_))
  intro v2 w2 hr hg
  obtain ⟨A2, cap2, rfl, hPre⟩ := HPRE.out v2 w2 hr hg
  have HPr := Lib.hid hPre
  obtain ⟨c0, c1, c2, c3, c4, c5⟩ := opX_cells hPre.box
  rw [← HDL.out] at c3
  have HBd' := HBd.out
  have K1 := Lib.hid (HPr.out.del HBd' (by omega))
  have K2 := Lib.hid (HPr.out.drop HBd' (by omega))
  have K3 := Lib.hid (HPr.out.dbl HBd' (by omega))
  have K4 := Lib.hid (HPr.out.spoil HBd' (by omega))
  have K5 := Lib.hid (HPr.out.two.back HPr.out.sub)
  clear HPRE HBY HOW hr hg hPre HNN
  by_cases e0 : x.kind = 0
  · have HQ := Lib.hid (HQ0.out e0)
    rw [e0] at c0
    obtain ⟨M, hM⟩ : ∃ M, M = manyN x := ⟨_, rfl⟩
    have hmx : max (1 : Int) x.many = (M : Int) := by rw [hM]; unfold manyN; omega
    have hM300 : M ≤ 300 := by have := hf.2; omega
    rw [← hM] at HQ
    have HS : Hid (∀ (n : Nat) (wr : World), n ≤ M → Two w0 o1 o2 (sendN b x n) (sendN b x n) (fun k => F k ∨ W.heap.size ≤ k ∧ k < w2.heap.size) w2 wr →
        Calls Try.prog 33 #[.pointer (some ⟨o1, 0, none⟩), .int .i64 x.n, .int .i64 x.at_, .slice A2 DL cap2] wr fun e w3 => e = .returned (.int .i64 (comeV (sendN b x n))) ∧ opCells w3 W.heap.size x ∧
        Calls Try.prog 34 #[.pointer (some ⟨o2, 0, none⟩), .int .i64 x.n, .int .i64 x.at_, .slice x.A DL x.cap] w3 fun e w4 => e = .returned (.int .i64 (comeV (sendN b x n))) ∧ opCells w4 W.heap.size x ∧ Two w0 o1 o2 (sendN b x (n + 1)) (sendN b x (n + 1)) (fun k => F k ∨ W.heap.size ≤ k ∧ k < w2.heap.size) w2 w4) := fun n wr hn hI => by
      rw [HDL.out]
      exact HPr.out.send HBd' hk (by omega) hI
    have HSP : Hid (∀ wr, Two w0 o1 o2 (sendN b x M) (sendN b x M) (fun k => F k ∨ W.heap.size ≤ k ∧ k < w2.heap.size) w2 wr → SpI w0 o1 o2 (sendN b x M) F V A2 DL wr) := fun wr hI => by
      rw [HDL.out]
      exact HPr.out.spI hI
    have HC : Hid (∀ wr c1 c2, Two w0 o1 o2 c1 c2 (fun k => F k ∨ W.heap.size ≤ k ∧ k < w2.heap.size) w2 wr → opCells wr W.heap.size x) := fun wr d1 d2 hI => opX_cells ((hI.blk HPr.out.qF.1).trans HPr.out.box)
    have HT0 := Lib.hid HPr.out.two
    clear K1 K2 K3 K4 K5 HQ0 HQ1 HQ2 HQ3 HQ4 HQ5 HPr HBd hM e0 HBd'
    simp only [opCells] at HS HC
    rw [← HDL.out] at HC HS
    clear HDL
    generalize x.kind = kd at *
    generalize x.n = xn at *
    generalize x.at_ = xa at *
    generalize x.v = xv at *
    generalize x.many = xm at *
    generalize x.cap = xc at *
    generalize x.A = xA at *
    go_wp2
    go_loopw [8] (fun i wr => ∃ n : Nat, n ≤ M ∧ i = .int .i64 (n : Int) ∧ Two w0 o1 o2 (sendN b x n) (sendN b x n) (fun k => F k ∨ W.heap.size ≤ k ∧ k < w2.heap.size) w2 wr) (fun i _ => M - (intOf i).toNat)
    case atStart => exact ⟨0, by omega, rfl, HT0.out⟩
    case round =>
      obtain ⟨n, hn, rfl, hI⟩ := hrel
      obtain ⟨g0, g1, g2, g3, g4, g5⟩ := HC.out _ _ _ hI
      by_cases hlt : n < M
      · have j1 : (n : Int) < (M : Int) := by omega
        have K := Lib.hid (HS.out n wr.drew (by omega) (hI.later ((Below.refl _ wr).drew)))
        have z1 : wr.drew.cell? ⟨W.heap.size, 1, none⟩ = some (.int .i64 xn) := g1
        have z2 : wr.drew.cell? ⟨W.heap.size, 2, none⟩ = some (.int .i64 xa) := g2
        have z3 : wr.drew.cell? ⟨W.heap.size, 3, none⟩ = some (.slice xA DL xc) := g3
        clear HS HSP HC HT0 hI c0 c1 c2 c3 c4 c5 g0 g1 g2 g3 g4 HQ
        generalize comeV (sendN b x n) = cv at *
        go_wp2_with fail
        go_region_held3 (fun W' => W'.cell? ⟨W.heap.size, 1, none⟩ = some (.int .i64 xn) ∧ W'.cell? ⟨W.heap.size, 2, none⟩ = some (.int .i64 xa) ∧ W'.cell? ⟨W.heap.size, 3, none⟩ = some (.slice xA DL xc)) (first | exact ⟨z1, z2, z3⟩ | exact ⟨k1, k2, k3⟩ | exact ⟨l1, l2, l3⟩) (first | (go_at_call 33; (with_reducible refine K.out.mono ?_); rintro e w9 ⟨rfl, ⟨_, k1, k2, k3, _, _⟩, h9⟩) | (go_at_call 34; (with_reducible refine h9.mono ?_); rintro e w10 ⟨rfl, ⟨_, l1, l2, l3, _, _⟩, h10⟩))
        have H10 := Lib.hid h10
        clear h10 z1 z2 z3 l1 l2 l3 g5
        go_wp2
        go_roundw
        case rel => exact ⟨n + 1, by omega, by go_num, H10.out⟩
        case measure => simp [intOf]; omega
      · obtain rfl : n = M := by omega
        have HSp := Lib.hid (HSP.out wr hI)
        have hDL9 : DL ≤ 9223372036854775807 := by omega
        clear HS HSP HC HT0 hI c0 c1 c2 c3 c4 c5 g0 g1 g2 g3 g4
        go_wp2
        go_loopw [53] (fun i wx => ∃ j : Nat, j ≤ DL ∧ i = .int .i64 (j : Int) ∧ SpI w0 o1 o2 (sendN b x n) F V A2 DL wx) (fun i _ => DL - (intOf i).toNat)
        case atStart => exact ⟨0, by omega, rfl, HSp.out⟩
        case round =>
          rename World => wx
          obtain ⟨j, hj, rfl, hS⟩ := hrel
          by_cases hlt2 : j < DL
          · obtain ⟨g, z, rfl, y1, y2, hset⟩ := hS.cell hlt2
            have HST := Lib.hid hset
            have q0 : (0 : Int) ≤ (j : Int) := by omega
            have q1 : (j : Int) < (DL : Int) := by omega
            clear hset hS HQ HSp
            go_wp2
            go_roundw
            case rel => exact ⟨j + 1, by omega, by go_num, HST.out _⟩
            case measure => simp [intOf]; omega
          · obtain rfl : j = DL := by omega
            have HF := Lib.hid (HQ.out wx hS.done)
            clear hS HQ HSp
            go_wp2
            first | exact HF.out | (go_ret; exact HF.out)
  · have d0 : (x.kind == 0) = false := by simpa using e0
    clear HPr HBd HQ0 HBd'
    simp only [opCells] at K4
    rw [← HDL.out] at K4
    by_cases e1 : x.kind = 1
    · have HQ := Lib.hid (HQ1.out e1)
      rw [e1] at c0
      clear K2 K3 K4 K5 HQ1 HQ2 HQ3 HQ4 HQ5 c2 c3 c4 c5 d0 e0 e1 HDL
      generalize x.n = xn at *
      go_wp2_with fail
      refine K1.out.mono ?_
      rintro e w3 ⟨y, A, cp, er, rfl, h3, h4⟩
      obtain ⟨n1, f1, t1, d1, s1⟩ := y
      simp only [flA, flO] at h4
      have H4 := Lib.hid h4
      clear h4 K1
      simp only [flA]
      generalize d1.length = L1 at *
      go_wp2_with fail
      refine H4.out.mono ?_
      rintro e w4 ⟨A', cp', rfl, h5, h6⟩
      obtain ⟨z0, z1, z2, z3, z4⟩ := h5 (.cells #[.int .i64 n1, .int .i64 f1, .int .i64 t1, .slice A' L1 cp', .bool s1] 38)
      have H6 := Lib.hid (h6 (.cells #[.int .i64 n1, .int .i64 f1, .int .i64 t1, .slice A' L1 cp', .bool s1] 38))
      clear h5 h6 H4 h3
      go_wp2_with fail
      refine H6.out.mono ?_
      rintro e w5 ⟨rfl, h7⟩
      have H7 := Lib.hid (HQ.out _ h7)
      clear h7 H6 z0 z1 z2 z3 z4 HQ
      go_wp2
      first | exact H7.out | (go_ret; exact H7.out)
    · have d1 : (x.kind == 1) = false := by simpa using e1
      by_cases e2 : x.kind = 2
      · have HQ := Lib.hid (HQ2.out e2)
        rw [e2] at c0
        clear K1 K3 K4 K5 HQ1 HQ2 HQ3 HQ4 HQ5 c2 c3 c4 c5 d0 e0 d1 e1 e2 HDL
        generalize x.n = xn at *
        go_wp2_with fail
        refine K2.out.mono ?_
        rintro e w3 ⟨er, rfl, h3, h4⟩
        have H4 := Lib.hid h4
        clear h4 K2
        go_wp2_with fail
        refine H4.out.mono ?_
        rintro e w4 ⟨rfl, h7⟩
        have H7 := Lib.hid (HQ.out _ h7)
        clear h7 H4 HQ h3
        go_wp2
        first | exact H7.out | (go_ret; exact H7.out)
      · have d2 : (x.kind == 2) = false := by simpa using e2
        by_cases e3 : x.kind = 3
        · have HQ := Lib.hid (HQ3.out e3)
          rw [e3] at c0
          clear K1 K2 K4 K5 HQ1 HQ2 HQ3 HQ4 HQ5 c2 c3 c4 c5 d0 e0 d1 e1 d2 e2 e3 HDL
          generalize x.n = xn at *
          go_wp2_with fail
          refine K3.out.mono ?_
          rintro e w3 ⟨v, er, rfl, h3, h4⟩
          have H4 := Lib.hid h4
          clear h4 K3
          go_wp2_with fail
          refine H4.out.mono ?_
          rintro e w4 ⟨rfl, h7⟩
          have H7 := Lib.hid (HQ.out _ h7)
          clear h7 H4 HQ h3
          go_wp2
          first | exact H7.out | (go_ret; exact H7.out)
        · have d3 : (x.kind == 3) = false := by simpa using e3
          by_cases e4 : x.kind = 4
          · have HQ := Lib.hid (HQ4.out e4)
            rw [e4] at c0
            clear K1 K2 K3 K5 HQ1 HQ2 HQ3 HQ4 HQ5 d0 e0 d1 e1 d2 e2 d3 e3 HDL
            generalize x.n = xn at *
            generalize x.at_ = xa at *
            generalize x.v = xv at *
            go_wp2_with fail
            refine K4.out.mono ?_
            rintro e w3 ⟨er, rfl, ⟨_, g1, g2, _, g4, _⟩, h4⟩
            have H4 := Lib.hid h4
            clear h4 K4
            go_wp2_with fail
            refine H4.out.mono ?_
            rintro e w4 ⟨rfl, h7⟩
            have H7 := Lib.hid (HQ.out _ h7)
            clear h7 H4 HQ g1 g2 g4
            go_wp2
            first | exact H7.out | (go_ret; exact H7.out)
          · have d4 : (x.kind == 4) = false := by simpa using e4
            have HQ := Lib.hid (HQ5.out e0 e1 e2 e3 e4 _ K5.out)
            clear K1 K2 K3 K4 K5 HQ1 HQ2 HQ3 HQ4 HQ5 HDL
            generalize x.kind = kd at *
            go_wp2
            first | exact HQ.out | (go_ret; exact HQ.out)
end Go.Proofs.Ytinihggcibghaaa
