/-
  The law GraphAdds: its walk.
-/
import Derived.Test.YtdhpphkkpjldfaaGSt
import Derived.IntWalk
namespace Go.Proofs.Ytdhpphkkpjldfaa
set_option maxRecDepth 100000
open Go Go.RowKit Gq

/-- Add of two nodes. -/
theorem addK_any {w : World} {b : Nat} {R : Gr} {S : Nat → Prop} (h : GAt w b R S) (hO : Ok R) {a c : Nat} (ha : a < R.length) (hc : c < R.length) :
    Calls Try.prog 11 #[.pointer (some ⟨b, 0, none⟩), .int .i64 (a : Int), .int .i64 (c : Int)] w fun e w' => ∃ z : Int, e = .returned (.int .i64 z) ∧ ((a ≠ c ∧ z = 0) ∨ (a = c ∧ z = 20)) ∧
      ∃ R' S', GAt w' b R' S' ∧ Ok R' ∧ R'.length = R.length ∧ (∀ i x, x ∈ row R i → x ∈ row R' i) ∧ (∀ k, S' k → S k ∨ w.heap.size ≤ k) ∧ Kept S w w' := by
  by_cases hac : a = c
  · refine (add_out h (a := (a : Int)) (x := (c : Int)) (fun hn => hn.2.2 (by rw [hac]))).mono ?_
    rintro e w' ⟨rfl, hw⟩
    obtain rfl := hw.symm
    exact ⟨20, rfl, .inr ⟨hac, rfl⟩, R, S, h, hO, rfl, fun _ _ hx => hx, fun k hk => .inl hk, Kept.refl _ _⟩
  · refine (add_any h hO (a := a) (x := c) ha hc hac).mono ?_
    rintro e w' ⟨rfl, S', h1, h2, h3⟩
    refine ⟨0, rfl, .inl ⟨hac, rfl⟩, addE R a c, S', h1, addE_ok hO ha hc hac, addE_length .., fun i x hx => ?_, h2, h3⟩
    rw [row_addE ha]
    by_cases e : i = a
    · subst e; rw [if_pos rfl]; exact mem_insN.2 (.inr hx)
    · rw [if_neg e]; exact hx

structure AdI (w : World) (q b tw : Nat) (R : Gr) (S St : Nat → Prop) (X : Array Value) (wr : World) : Prop where
  bx : wr.heap[q]? = some (.cells X 50 (0, 0))
  gr : GAt wr b R S
  tw : GAt wr tw (bkF (bkF R)) St
  lo : Below w.heap.size w wr
theorem AdI.below {w wr wr' : World} {q b tw : Nat} {R : Gr} {S St : Nat → Prop} {X : Array Value} (h : AdI w q b tw R S St X wr) (hb : Below wr.heap.size wr wr') : AdI w q b tw R S St X wr' :=
  ⟨(hb.block q (blk_lt h.bx)).trans h.bx, h.gr.below hb (Nat.le_refl _), h.tw.below hb (Nat.le_refl _), h.lo.trans (hb.mono h.lo.size)⟩
theorem AdI.still {w wr wr' : World} {q b tw : Nat} {R : Gr} {S St : Nat → Prop} {X : Array Value} (h : AdI w q b tw R S St X wr) (hs : Still wr wr') : AdI w q b tw R S St X wr' :=
  h.below (hs.below (fun _ h => h.elim) (Nat.le_refl _))

set_option maxHeartbeats 4000000 in
theorem adds_any {w : World} {A : Option Addr} {l : List Ed} {cap n x0 x1 x2 : Nat} (hE : EdgesAt w A l) (hl : l.length ≤ maxLen) (hn : n ≤ 255) (h0 : x0 ≤ 255) (h1 : x1 ≤ 255) (h2 : x2 ≤ 255) :
    Calls Try.prog 7 #[.int .u8 (n : Int), .slice A l.length cap, .agg #[.int .u8 (x0 : Int), .int .u8 (x1 : Int), .int .u8 (x2 : Int)]] w fun e w' => e = .returned (.bool true) ∧ Below w.heap.size w w' := by
  have HE := Lib.hid hE
  have hL := hl
  unfold maxLen at hl
  clear hE
  obtain ⟨k, hk⟩ : ∃ k : Nat, k = 1 + n % 40 := ⟨_, rfl⟩
  obtain ⟨f, hf⟩ : ∃ f : Nat, f = x0 % k := ⟨_, rfl⟩
  obtain ⟨a, ha⟩ : ∃ a : Nat, a = x1 % k := ⟨_, rfl⟩
  obtain ⟨c, hc⟩ : ∃ c : Nat, c = x2 % k := ⟨_, rfl⟩
  have hk1 : 1 ≤ k := by omega
  have hk2 : k ≤ 40 := by omega
  have hfk : f < k := by rw [hf]; exact Nat.mod_lt _ hk1
  have hak : a < k := by rw [ha]; exact Nat.mod_lt _ hk1
  have hck : c < k := by rw [hc]; exact Nat.mod_lt _ hk1
  have ek : (1 : Int) + (n : Int) % 40 = (k : Int) := by omega
  have ef : (x0 : Int) % (k : Int) = (f : Int) := by rw [hf]; omega
  have ea : (x1 : Int).tmod (k : Int) = (a : Int) := by rw [ha, Int.tmod_eq_emod_of_nonneg (by omega)]; omega
  have ec : (x2 : Int).tmod (k : Int) = (c : Int) := by rw [hc, Int.tmod_eq_emod_of_nonneg (by omega)]; omega
  have EK := Lib.hid ek
  have EF := Lib.hid ef
  have EA := Lib.hid ea
  have EC := Lib.hid ec
  have HL := Lib.hid hL
  clear ek ef hk hf hL hl ha hc ea ec
  have HX0 : Hid ((w.alloc (.cells #[.int .u8 (x0 : Int), .int .u8 (x1 : Int), .int .u8 (x2 : Int)] 50)).heap[w.heap.size]? = some (.cells #[.int .u8 (x0 : Int), .int .u8 (x1 : Int), .int .u8 (x2 : Int)] 50 (0, 0))) := heap_alloc_new w _
  go_enter Try.func7, Try.ntmps7
  go_wp2_with fail
  refine (alive_any _).mono ?_
  rintro e w1 ⟨rfl, hb1⟩
  have HX1 : Hid (w1.heap[w.heap.size]? = some (.cells #[.int .u8 (x0 : Int), .int .u8 (x1 : Int), .int .u8 (x2 : Int)] 50 (0, 0))) := (hb1.block _ (blk_lt HX0.out)).trans HX0.out
  have HB1 : Hid (Below w.heap.size w w1) := ((Below.refl _ w).alloc (Nat.le_refl _) _).trans (hb1.mono (by simp))
  have HE1 := Lib.hid (HE.out.below HB1.out (Nat.le_refl _))
  clear hb1 HX0
  go_wp2_with (go_at_call 29; fail)
  rw [EK.out]
  refine (built_any (n := k) HE1.out HL.out (by omega)).mono ?_
  rintro e w2 ⟨b, rfl, S, hg, hS, hb2⟩
  have HG2 := Lib.hid hg
  have HSS := Lib.hid hS
  have HX2 : Hid (w2.heap[w.heap.size]? = some (.cells #[.int .u8 (x0 : Int), .int .u8 (x1 : Int), .int .u8 (x2 : Int)] 50 (0, 0))) := (hb2.block _ (blk_lt HX1.out)).trans HX1.out
  have HQ1 : Hid (w.heap.size < w1.heap.size) := blk_lt HX1.out
  have HB2 := Lib.hid (HB1.out.trans (hb2.mono HB1.out.size))
  have HW12 : Hid (w1.heap.size ≤ w2.heap.size) := hb2.size
  have HO : Hid (Ok (Gq.built k l)) := built_ok (by omega) l
  have HLn : Hid ((Gq.built k l).length = k) := built_length k l
  have c0 : w2.cell? ⟨w.heap.size, 0, none⟩ = some (.int .u8 (x0 : Int)) := by rw [blk_cell HX2.out]; rfl
  have c1 : w2.cell? ⟨w.heap.size, 1, none⟩ = some (.int .u8 (x1 : Int)) := by rw [blk_cell HX2.out]; rfl
  have c2 : w2.cell? ⟨w.heap.size, 2, none⟩ = some (.int .u8 (x2 : Int)) := by rw [blk_cell HX2.out]; rfl
  clear hg hS hb2 HB1 HE HE1 HX1
  generalize Gq.built k l = R at *
  generalize hN : l.length = m at *
  by_cases hm : 300 < m
  · clear HG2
    go_wp2
    go_ret
    exact ⟨rfl, HB2.out⟩
  go_wp2_with fail
  rw [EF.out]
  refine (dist_any HG2.out HO.out (a := f) (by rw [HLn.out]; exact hfk)).mono ?_
  rintro e w3 ⟨g, n', rfl, hn', hD, hge, hb3⟩
  have HF : Hid (Far R f (distL R f)) := (distL_far HO.out (a := f) (by rw [HLn.out]; exact hfk)).1
  generalize distL R f = D at *
  have HDl : Hid (D.length = k) := HF.out.len.trans HLn.out
  have HD3 := Lib.hid hD
  have HG3 := Lib.hid (HG2.out.below hb3 (Nat.le_refl _))
  have HX3 : Hid (w3.heap[w.heap.size]? = some (.cells #[.int .u8 (x0 : Int), .int .u8 (x1 : Int), .int .u8 (x2 : Int)] 50 (0, 0))) := (hb3.block _ (blk_lt HX2.out)).trans HX2.out
  have HB3 := Lib.hid (HB2.out.trans (hb3.mono HB2.out.size))
  have HW13 : Hid (w1.heap.size ≤ w3.heap.size) := Nat.le_trans HW12.out hb3.size
  have HNg : Hid (¬ S g) := fun h => by have := HG2.out.lt g h; omega
  have HNq : Hid (¬ S w.heap.size) := fun h => by have h5 := HSS.out _ h; have h6 := HQ1.out; omega
  obtain rfl : n' = k := hn'.trans HDl.out
  have c1 : w3.cell? ⟨w.heap.size, 1, none⟩ = some (.int .u8 (x1 : Int)) := by rw [blk_cell HX3.out]; rfl
  have c2 : w3.cell? ⟨w.heap.size, 2, none⟩ = some (.int .u8 (x2 : Int)) := by rw [blk_cell HX3.out]; rfl
  clear hn' hD hge hb3 HG2 HX2 HB2
  have ea := EA.out
  have ec := EC.out
  have wa : IntKind.i64.wrap (a : Int) = (a : Int) := IntWalk.i64_in _ (by omega)
  have wc : IntKind.i64.wrap (c : Int) = (c : Int) := IntWalk.i64_in _ (by omega)
  have hkn : ¬ n' = 0 := by omega
  have wx1 : IntKind.i64.wrap (x1 : Int) = (x1 : Int) := IntWalk.i64_in _ (by omega)
  have wx2 : IntKind.i64.wrap (x2 : Int) = (x2 : Int) := IntWalk.i64_in _ (by omega)
  go_wp2
  go_still_tail 11, (by kernel_rfl)
  change wpList _ _ _ _ _ w3.drew
  clear ea ec wa wc wx1 wx2
  go_wp2_with fail
  refine (addK_any (HG3.out.still (Kept.refl _ w3).drew) HO.out (a := a) (c := c) (by rw [HLn.out]; exact hak) (by rw [HLn.out]; exact hck)).mono ?_
  rintro e w4 ⟨z, rfl, hz, R', S', hg4, hO4, hl4, hsub, hS4, hk4⟩
  have HK4 : Hid (Kept S w3 w4) := (Kept.refl S w3).drew.trans hk4 (fun _ _ h => h)
  have HZ := Lib.hid hz
  have HO4 := Lib.hid hO4
  have HG4 := Lib.hid hg4
  have HLn4 : Hid (R'.length = n') := hl4.trans HLn.out
  have HSub := Lib.hid hsub
  have HS4' : Hid (∀ i, S' i → w1.heap.size ≤ i) := fun i hi => by
    rcases hS4 i hi with h | h
    · exact HSS.out i h
    · have h5 : w3.heap.size ≤ i := h
      have h6 := HB3.out.size
      have h7 := HQ1.out
      have h8 := blk_lt HX3.out
      have h9 : w1.heap.size ≤ w3.heap.size := HW13.out
      omega
  have HD4 : Hid (w4.heap[g]? = some (.cells (ic D) 3 (0, 0))) := (HK4.out.block g (blk_lt HD3.out) HNg.out).trans HD3.out
  have HX4 : Hid (w4.heap[w.heap.size]? = some (.cells #[.int .u8 (x0 : Int), .int .u8 (x1 : Int), .int .u8 (x2 : Int)] 50 (0, 0))) := (HK4.out.block _ (blk_lt HX3.out) HNq.out).trans HX3.out
  have HB4 : Hid (Below w.heap.size w w4) := HB3.out.trans (HK4.out.below (fun i hi => Nat.le_trans (Nat.le_of_lt HQ1.out) (HSS.out i hi)) HB3.out.size)
  clear hz hg4 hO4 hl4 hsub hS4 hk4 HG3 HX3 HB3 HD3 HK4 HNg HNq HSS c1 c2
  go_wp2_with fail
  refine (dist_any HG4.out HO4.out (a := f) (by rw [HLn4.out]; exact hfk)).mono ?_
  rintro e w5 ⟨g', n5, rfl, hn5, hD5, hge5, hb5⟩
  have HF5 : Hid (Far R' f (distL R' f)) := (distL_far HO4.out (a := f) (by rw [HLn4.out]; exact hfk)).1
  generalize distL R' f = D5 at *
  have HDl5 : Hid (D5.length = n') := HF5.out.len.trans HLn4.out
  obtain rfl : n5 = n' := hn5.trans HDl5.out
  have HD6 : Hid (w5.heap[g]? = some (.cells (ic D) 3 (0, 0))) := (hb5.block g (blk_lt HD4.out)).trans HD4.out
  have HD5 := Lib.hid hD5
  have HX5 : Hid (w5.heap[w.heap.size]? = some (.cells #[.int .u8 (x0 : Int), .int .u8 (x1 : Int), .int .u8 (x2 : Int)] 50 (0, 0))) := (hb5.block _ (blk_lt HX4.out)).trans HX4.out
  have HG5 := Lib.hid (HG4.out.below hb5 (Nat.le_refl _))
  have HB5 := Lib.hid (HB4.out.trans (hb5.mono HB4.out.size))
  have HLess : Hid (∀ i, 0 ≤ dg D i → 0 ≤ dg D5 i ∧ dg D5 i ≤ dg D i) := fun i h => by
    obtain ⟨d, hd⟩ := Int.eq_ofNat_of_zero_le h
    have := Far.less HF.out HF5.out HSub.out d i hd
    rw [hd]; exact this
  clear hn5 hD5 hge5 hb5 HG4 HX4 HB4 HD4 HF HF5 HSub
  go_wp2
  go_loopw [62] (fun u wr => ∃ i : Nat, i ≤ n5 ∧ u = .int .i64 (i : Int) ∧ Still w5 wr) (fun u _ => n5 - (intOf u).toNat)
  case atStart => exact ⟨0, Nat.zero_le _, rfl, Kept.refl _ _⟩
  case round =>
    obtain ⟨i, hi, rfl, hst⟩ := hrel
    have HW := Lib.hid hst
    clear hst
    by_cases hlt : i < n5
    · have fx := ic_cell (i := i) ((HW.out.block g (blk_lt HD6.out) id).trans HD6.out) (by rw [HDl.out]; exact hlt)
      have fy := ic_cell (i := i) ((HW.out.block g' (blk_lt HD5.out) id).trans HD5.out) (by rw [HDl5.out]; exact hlt)
      have hle := HLess.out i
      generalize dg D i = x at *
      generalize dg D5 i = y at *
      have i0 : (0 : Int) ≤ (i : Int) := by omega
      have i1 : (i : Int) < (n5 : Int) := by omega
      by_cases hx : 0 ≤ x
      · obtain ⟨y0, y1⟩ := hle hx
        have d1 : decide (0 ≤ x) = true := decide_eq_true hx
        have d2 : decide (y < 0) = false := decide_eq_false (by omega)
        have d3 : decide (x < y) = false := decide_eq_false (by omega)
        clear hle
        go_wp2
        go_quiet (fail)
        go_wp2
        go_roundw
        case rel => exact ⟨i + 1, by omega, by go_num, HW.out.drewN nq⟩
        case measure => simp [intOf]; omega
      · have d1 : decide (0 ≤ x) = false := decide_eq_false hx
        clear hle
        go_wp2
        go_quiet (fail)
        go_wp2
        go_roundw
        case rel => exact ⟨i + 1, by omega, by go_num, HW.out.drewN nq⟩
        case measure => simp [intOf]; omega
    · obtain rfl : i = n5 := by omega
      have hbW : Below w5.heap.size w5 wr := HW.out.below (fun _ h => h.elim) (Nat.le_refl _)
      have HG6 := Lib.hid (HG5.out.below hbW (Nat.le_refl _))
      have HX6 : Hid (wr.heap[w.heap.size]? = some (.cells #[.int .u8 (x0 : Int), .int .u8 (x1 : Int), .int .u8 (x2 : Int)] 50 (0, 0))) := (hbW.block _ (blk_lt HX5.out)).trans HX5.out
      have HB6 := Lib.hid (HB5.out.trans (hbW.mono HB5.out.size))
      clear hbW HW HG5 HX5 HB5 HD5 HD6
      go_wp2_with fail
      refine (back_any HG6.out HO4.out).mono ?_
      rintro e w6 ⟨b6, rfl, S6, hg6, _, hb6⟩
      have HG7 := Lib.hid (HG6.out.below hb6 (Nat.le_refl _))
      have HX7 : Hid (w6.heap[w.heap.size]? = some (.cells #[.int .u8 (x0 : Int), .int .u8 (x1 : Int), .int .u8 (x2 : Int)] 50 (0, 0))) := (hb6.block _ (blk_lt HX6.out)).trans HX6.out
      have HB7 := Lib.hid (HB6.out.trans (hb6.mono HB6.out.size))
      have HM7 := Lib.hid hg6
      clear hg6 hb6 HG6 HX6 HB6
      go_wp2_with fail
      refine (back_any HM7.out (bkF_ok HO4.out)).mono ?_
      rintro e w7 ⟨tw, rfl, St, hg7, _, hb7⟩
      have HI : Hid (AdI w w.heap.size b tw R' S' St #[.int .u8 (x0 : Int), .int .u8 (x1 : Int), .int .u8 (x2 : Int)] w7) := ⟨(hb7.block _ (blk_lt HX7.out)).trans HX7.out, HG7.out.below hb7 (Nat.le_refl _), hg7, HB7.out.trans (hb7.mono HB7.out.size)⟩
      clear hg7 hb7 HG7 HX7 HB7 HM7
      go_wp2
      go_loopw [16] (fun u wr => ∃ j : Nat, j ≤ i ∧ u = .int .i64 (j : Int) ∧ AdI w w.heap.size b tw R' S' St #[.int .u8 (x0 : Int), .int .u8 (x1 : Int), .int .u8 (x2 : Int)] wr) (fun u _ => i - (intOf u).toNat)
      case atStart => exact ⟨0, Nat.zero_le _, rfl, HI.out⟩
      case round =>
        obtain ⟨j, hj, rfl, hst⟩ := hrel
        clear HI
        have HI := Lib.hid hst
        clear hst
        by_cases hlt2 : j < i
        · have j0 : (0 : Int) ≤ (j : Int) := by omega
          have j1 : (j : Int) < (i : Int) := by omega
          go_wp2_with fail
          refine (out_any HI.out.tw (bkF_ok (bkF_ok HO4.out)) (a := j) (by rw [bkF_length, bkF_length, HLn4.out]; exact hlt2)).mono ?_
          rintro e w8 ⟨v8, rfl, hr8, _, hb8⟩
          rw [row_bkbk HO4.out] at hr8
          have HI8 := Lib.hid (HI.out.below hb8)
          have HR8 := Lib.hid hr8
          clear hr8 hb8 HI
          go_wp2_with fail
          refine (out_any HI8.out.gr HO4.out (a := j) (by rw [HLn4.out]; exact hlt2)).mono ?_
          rintro e w9 ⟨v9, rfl, hr9, _, hb9⟩
          have HI9 := Lib.hid (HI8.out.below hb9)
          have HR9 := Lib.hid hr9
          have HS9 : Hid (IsL w9 v8 (ints (row R' j))) := HR8.out.isL.below hb9 (Nat.le_refl _)
          clear hr9 hb9 HI8 HR8
          go_wp2_with fail
          refine (same_any HS9.out HR9.out.isL (by rw [ints_length]; have := HO4.out.len j; have h5 := HLn4.out; omega)).mono ?_
          rintro e w10 ⟨rfl, hs10⟩
          have HI10 := Lib.hid (HI9.out.still hs10)
          have e5 : decide (ints (row R' j) = ints (row R' j)) = true := decide_eq_true rfl
          rw [e5]
          clear hs10 HI9 HR9 HS9 e5
          go_wp2
          go_roundw
          case rel => exact ⟨j + 1, by omega, by go_num, HI10.out⟩
          case measure => simp [intOf]; omega
        · obtain rfl : j = i := by omega
          have c1 : wr.cell? ⟨w.heap.size, 1, none⟩ = some (.int .u8 (x1 : Int)) := by rw [blk_cell HI.out.bx]; rfl
          have c2 : wr.cell? ⟨w.heap.size, 2, none⟩ = some (.int .u8 (x2 : Int)) := by rw [blk_cell HI.out.bx]; rfl
          have ea := EA.out
          have ec := EC.out
          have wa : IntKind.i64.wrap (a : Int) = (a : Int) := IntWalk.i64_in _ (by omega)
          have wc : IntKind.i64.wrap (c : Int) = (c : Int) := IntWalk.i64_in _ (by omega)
          have wx1 : IntKind.i64.wrap (x1 : Int) = (x1 : Int) := IntWalk.i64_in _ (by omega)
          have wx2 : IntKind.i64.wrap (x2 : Int) = (x2 : Int) := IntWalk.i64_in _ (by omega)
          have hkn : ¬ j = 0 := by omega
          rcases HZ.out with ⟨hac, rfl⟩ | ⟨rfl, rfl⟩
          · have e1 : decide ((a : Int) = (c : Int)) = false := decide_eq_false (by omega)
            have e2 : ((a : Int) == (c : Int)) = false := by simp; omega
            go_wp2
            go_quiet (fail)
            go_wp2
            go_ret
            exact ⟨by simp; omega, (HI.out.still ((Kept.refl _ wr).drewN nq)).lo⟩
          · go_wp2
            go_quiet (fail)
            go_wp2
            go_ret
            exact ⟨by simp, (HI.out.still ((Kept.refl _ wr).drewN nq)).lo⟩
end Go.Proofs.Ytdhpphkkpjldfaa
