/-
  The law GraphBack: its walk.
-/
import Derived.Test.YtlcadkhhpnaofaaGAd0
import Derived.Test.YtlcadkhhpnaofaaGKos2
import Derived.Test.YtlcadkhhpnaofaaGTar2
import Derived.Test.YtlcadkhhpnaofaaTk
namespace Go.Proofs.Ytlcadkhhpnaofaa
set_option maxRecDepth 100000
set_option linter.unusedSimpArgs false
open Go Go.RowKit Gq

structure BkI (w : World) (b bb : Nat) (R : Gr) (S Sb : Nat → Prop) (wr : World) : Prop where
  gr : GAt wr b R S
  bk : GAt wr bb (bkF R) Sb
  lo : Below w.heap.size w wr
theorem BkI.below {w wr wr' : World} {b bb : Nat} {R : Gr} {S Sb : Nat → Prop} (h : BkI w b bb R S Sb wr) (hb : Below wr.heap.size wr wr') : BkI w b bb R S Sb wr' :=
  ⟨h.gr.below hb (Nat.le_refl _), h.bk.below hb (Nat.le_refl _), h.lo.trans (hb.mono h.lo.size)⟩

abbrev BkS (w : World) (b bb : Nat) (R : Gr) (S Sb : Nat → Prop) (q k c5 : Nat) (W : World) : Prop := BkI w b bb R S Sb W ∧ IsL W (.slice (some ⟨q, 0, none⟩) k c5) (ints (strF R))
theorem BkS.below {w wr wr' : World} {b bb q k c5 : Nat} {R : Gr} {S Sb : Nat → Prop} (h : BkS w b bb R S Sb q k c5 wr) (hb : Below wr.heap.size wr wr') : BkS w b bb R S Sb q k c5 wr' :=
  ⟨h.1.below hb, h.2.below hb (Nat.le_refl _)⟩
theorem isL_cell {W : World} {q n c : Nat} {l : List Nat} (h : IsL W (.slice (some ⟨q, 0, none⟩) n c) (ints l)) {i : Nat} (hi : i < l.length) : W.cell? ⟨q, i, none⟩ = some (.int .i64 ((nv l i : Nat) : Int)) := by
  obtain ⟨A, cap, e, _, hc⟩ := h
  obtain ⟨q', e', h⟩ := hc i (by rw [ints_length]; exact hi)
  cases e
  cases e'
  rw [ints_get] at h
  exact h

set_option maxHeartbeats 4000000 in
theorem backs_any {w : World} {A : Option Addr} {l : List Ed} {cap n x1 x2 : Nat} (hE : EdgesAt w A l) (hl : l.length ≤ maxLen) (hn : n ≤ 255) (h1 : x1 ≤ 255) (h2 : x2 ≤ 255) :
    Calls Try.prog 4 #[.int .u8 (n : Int), .slice A l.length cap, .agg #[.int .u8 (x1 : Int), .int .u8 (x2 : Int)]] w fun e w' => e = .returned (.bool true) ∧ Below w.heap.size w w' := by
  have HE := Lib.hid hE
  have hL := hl
  unfold maxLen at hl
  clear hE
  obtain ⟨k, hk⟩ : ∃ k : Nat, k = 1 + n % 40 := ⟨_, rfl⟩
  obtain ⟨a, ha⟩ : ∃ a : Nat, a = x1 % k := ⟨_, rfl⟩
  obtain ⟨c, hc⟩ : ∃ c : Nat, c = x2 % k := ⟨_, rfl⟩
  have hk1 : 1 ≤ k := by omega
  have hk2 : k ≤ 40 := by omega
  have hak : a < k := by rw [ha]; exact Nat.mod_lt _ hk1
  have hck : c < k := by rw [hc]; exact Nat.mod_lt _ hk1
  have ek : (1 : Int) + (n : Int) % 40 = (k : Int) := by omega
  have ea : (x1 : Int).tmod (k : Int) = (a : Int) := by rw [ha, Int.tmod_eq_emod_of_nonneg (by omega)]; omega
  have ec : (x2 : Int).tmod (k : Int) = (c : Int) := by rw [hc, Int.tmod_eq_emod_of_nonneg (by omega)]; omega
  have EK := Lib.hid ek
  have EA := Lib.hid ea
  have EC := Lib.hid ec
  have HL := Lib.hid hL
  clear ek hk hL hl ha hc ea ec
  have HX0 : Hid ((w.alloc (.cells #[.int .u8 (x1 : Int), .int .u8 (x2 : Int)] 41)).heap[w.heap.size]? = some (.cells #[.int .u8 (x1 : Int), .int .u8 (x2 : Int)] 41 (0, 0))) := heap_alloc_new w _
  go_enter Try.func4, Try.ntmps4
  go_wp2_with fail
  refine (alive_any _).mono ?_
  rintro e w1 ⟨rfl, hb1⟩
  have HX1 : Hid (w1.heap[w.heap.size]? = some (.cells #[.int .u8 (x1 : Int), .int .u8 (x2 : Int)] 41 (0, 0))) := (hb1.block _ (blk_lt HX0.out)).trans HX0.out
  have HB1 : Hid (Below w.heap.size w w1) := ((Below.refl _ w).alloc (Nat.le_refl _) _).trans (hb1.mono (by simp))
  have HE1 := Lib.hid (HE.out.below HB1.out (Nat.le_refl _))
  clear hb1 HX0
  go_wp2_with (go_at_call 24; fail)
  rw [EK.out]
  refine (built_any (n := k) HE1.out HL.out (by omega)).mono ?_
  rintro e w2 ⟨b, rfl, S, hg, _, hb2⟩
  have HG2 := Lib.hid hg
  have HX2 : Hid (w2.heap[w.heap.size]? = some (.cells #[.int .u8 (x1 : Int), .int .u8 (x2 : Int)] 41 (0, 0))) := (hb2.block _ (blk_lt HX1.out)).trans HX1.out
  have HB2 := Lib.hid (HB1.out.trans (hb2.mono HB1.out.size))
  have HO : Hid (Ok (Gq.built k l)) := built_ok (by omega) l
  have HLn : Hid ((Gq.built k l).length = k) := built_length k l
  have c1 : w2.cell? ⟨w.heap.size, 0, none⟩ = some (.int .u8 (x1 : Int)) := by rw [blk_cell HX2.out]; rfl
  have c2 : w2.cell? ⟨w.heap.size, 1, none⟩ = some (.int .u8 (x2 : Int)) := by rw [blk_cell HX2.out]; rfl
  clear hg hb2 HB1 HE HE1 HX1
  generalize Gq.built k l = R at *
  generalize hN : l.length = m at *
  by_cases hm : 300 < m
  · clear HG2
    go_wp2
    go_ret
    exact ⟨rfl, HB2.out⟩
  have ea := EA.out
  have ec := EC.out
  have wa : IntKind.i64.wrap (a : Int) = (a : Int) := IntWalk.i64_in _ (by omega)
  have wc : IntKind.i64.wrap (c : Int) = (c : Int) := IntWalk.i64_in _ (by omega)
  have wx1 : IntKind.i64.wrap (x1 : Int) = (x1 : Int) := IntWalk.i64_in _ (by omega)
  have wx2 : IntKind.i64.wrap (x2 : Int) = (x2 : Int) := IntWalk.i64_in _ (by omega)
  have hkn : ¬ k = 0 := by omega
  go_wp2_with fail
  go_quiet (fail)
  have HG3 : Hid (GAt (w2.drewN nq) b R S) := HG2.out.still ((Kept.refl _ w2).drewN nq)
  have HB3 : Hid (Below w.heap.size w (w2.drewN nq)) := HB2.out.trans (((Kept.refl (fun _ => False) w2).drewN nq).below (fun _ h => h.elim) HB2.out.size)
  generalize w2.drewN nq = w3 at *
  clear ea ec wa wc wx1 wx2 c1 c2 HG2 HB2 HX2 hkn
  go_wp2_with fail
  refine (back_any HG3.out HO.out).mono ?_
  rintro e w4 ⟨bb, rfl, Sb, hbk, _, hb4⟩
  have HI4 : Hid (BkI w b bb R S Sb w4) := ⟨HG3.out.below hb4 (Nat.le_refl _), hbk, HB3.out.trans (hb4.mono HB3.out.size)⟩
  clear hbk hb4 HG3 HB3
  go_wp2_with fail
  refine (strong_any HI4.out.gr HO.out).mono ?_
  intro e w5 hq
  obtain ⟨v5, rfl⟩ : ∃ v5, e = .returned v5 := by obtain ⟨g, e, _⟩ := hq; exact ⟨_, e⟩
  obtain ⟨hL5, hb5⟩ := NewR.isL hq
  have HI5 := Lib.hid (HI4.out.below hb5)
  have HL5 := Lib.hid hL5
  have hL5' := hL5
  clear hq hL5 hb5 HI4
  have a0 : (0 : Int) ≤ (a : Int) := by omega
  have a1 : (a : Int) < (k : Int) := by omega
  have c0 : (0 : Int) ≤ (c : Int) := by omega
  have c1 : (c : Int) < (k : Int) := by omega
  have hs5 : (ints (strF R)).length = k := by rw [ints_length, str_len HO.out, HLn.out]
  obtain ⟨A5, c5, rfl, _, hc5⟩ := hL5'
  obtain ⟨q, rfl, _⟩ := hc5 a (by omega)
  rw [hs5] at HL5 ⊢
  clear hc5 hs5
  have HSL : Hid ((strF R).length = k) := by show _ = _; rw [str_len HO.out, HLn.out]
  obtain ⟨p1, hp1⟩ : ∃ p1 : Bool, (p1 = true ↔ Pth R a c) := by
    by_cases h : Pth R a c
    · exact ⟨true, by simp [h]⟩
    · exact ⟨false, by simp [h]⟩
  obtain ⟨p2, hp2⟩ : ∃ p2 : Bool, (p2 = true ↔ Pth R c a) := by
    by_cases h : Pth R c a
    · exact ⟨true, by simp [h]⟩
    · exact ⟨false, by simp [h]⟩
  have HP : Hid ((nv (strF R) a = nv (strF R) c) ↔ (p1 = true ∧ p2 = true)) := by
    show _ ↔ _
    rw [str_part HO.out (by rw [HLn.out]; exact hak) (by rw [HLn.out]; exact hck), hp1, hp2]
    rfl
  have HP1 := Lib.hid hp1
  have HP2 := Lib.hid hp2
  clear hp1 hp2
  go_wp2_with fail
  refine (dist_any HI5.out.gr HO.out (a := a) (by rw [HLn.out]; exact hak)).mono ?_
  rintro e w6 ⟨g6, n6, rfl, hn6, hD6, _, hb6⟩
  have hf6 := (distL_far HO.out (a := a) (by rw [HLn.out]; exact hak)).1
  have hk6 : n6 = k := hn6.trans (hf6.len.trans HLn.out)
  have f6 := ic_cell hD6 (i := c) (by rw [← hn6, hk6]; exact hck)
  have e6 : decide (0 ≤ dg (distL R a) c) = p1 := by
    rw [Bool.eq_iff_iff, decide_eq_true_iff, hf6.reach, HP1.out]
  rw [hk6]
  generalize dg (distL R a) c = y6 at *
  have HI6 := Lib.hid (HI5.out.below hb6)
  have HL6 := Lib.hid (HL5.out.below hb6 (Nat.le_refl _))
  clear hf6 hn6 hD6 hb6 HI5 HL5 hk6
  go_wp2_with fail
  try rw [e6]
  clear e6 f6
  refine (dist_any HI6.out.gr HO.out (a := c) (by rw [HLn.out]; exact hck)).mono ?_
  rintro e w7 ⟨g7, n7, rfl, hn7, hD7, _, hb7⟩
  have hf7 := (distL_far HO.out (a := c) (by rw [HLn.out]; exact hck)).1
  have hk7 : n7 = k := hn7.trans (hf7.len.trans HLn.out)
  have f7 := ic_cell hD7 (i := a) (by rw [← hn7, hk7]; exact hak)
  have e7 : decide (0 ≤ dg (distL R c) a) = p2 := by
    rw [Bool.eq_iff_iff, decide_eq_true_iff, hf7.reach, HP2.out]
  rw [hk7]
  generalize dg (distL R c) a = y7 at *
  have HI7 := Lib.hid (HI6.out.below hb7)
  have HL7 := Lib.hid (HL6.out.below hb7 (Nat.le_refl _))
  clear hf7 hn7 hD7 hb7 HI6 HL6 hk7
  go_wp2_with fail
  try rw [e7]
  clear e7 f7
  refine (dist_any HI7.out.bk (bkF_ok HO.out) (a := c) (by rw [bkF_length, HLn.out]; exact hck)).mono ?_
  rintro e w8 ⟨g8, n8, rfl, hn8, hD8, _, hb8⟩
  have hf8 := (distL_far (bkF_ok HO.out) (a := c) (by rw [bkF_length, HLn.out]; exact hck)).1
  have hk8 : n8 = k := hn8.trans (hf8.len.trans ((bkF_length R).trans HLn.out))
  have f8 := ic_cell hD8 (i := a) (by rw [← hn8, hk8]; exact hak)
  have e8 : decide (0 ≤ dg (distL (bkF R) c) a) = p1 := by
    rw [Bool.eq_iff_iff, decide_eq_true_iff, hf8.reach, HP1.out]
    exact ⟨fun h => h.forth HO.out, fun h => h.back HO.out⟩
  rw [hk8]
  generalize dg (distL (bkF R) c) a = y8 at *
  have HI8 := Lib.hid (HI7.out.below hb8)
  have HL8 := Lib.hid (HL7.out.below hb8 (Nat.le_refl _))
  clear hf8 hn8 hD8 hb8 HI7 HL7 hk8
  go_wp2
  try simp only [e8]
  clear e8 f8
  have HST : Hid (∀ W, BkS w b bb R S Sb q k c5 W → Calls Try.prog 19 #[.pointer (some ⟨bb, 0, none⟩)] W fun e w' => ∃ v, e = .returned v ∧ IsL w' v (ints (strF R)) ∧ BkS w b bb R S Sb q k c5 w') := fun W hW => by
    refine (strong_any hW.1.bk (bkF_ok HO.out)).mono ?_
    intro e w' hq
    rw [str_back HO.out] at hq
    obtain ⟨v, rfl⟩ : ∃ v, e = .returned v := by obtain ⟨g, e, _⟩ := hq; exact ⟨_, e⟩
    obtain ⟨h1, h2⟩ := NewR.isL hq
    exact ⟨v, rfl, h1, hW.below h2⟩
  have HJ1 : Hid (∀ W, BkS w b bb R S Sb q k c5 W → Calls Try.prog 20 #[.pointer (some ⟨b, 0, none⟩)] W fun e w' => ∃ v, e = .returned v ∧ IsL w' v (ints (joiF R)) ∧ BkS w b bb R S Sb q k c5 w') := fun W hW => by
    refine (joints_any hW.1.gr HO.out).mono ?_
    intro e w' hq
    obtain ⟨v, rfl⟩ : ∃ v, e = .returned v := by obtain ⟨g, e, _⟩ := hq; exact ⟨_, e⟩
    obtain ⟨h1, h2⟩ := NewR.isL hq
    exact ⟨v, rfl, h1, hW.below h2⟩
  have HJ2 : Hid (∀ W u, BkS w b bb R S Sb q k c5 W → IsL W u (ints (joiF R)) → Calls Try.prog 20 #[.pointer (some ⟨bb, 0, none⟩)] W fun e w' => ∃ v, e = .returned v ∧ IsL w' v (ints (joiF R)) ∧ BkS w b bb R S Sb q k c5 w' ∧ IsL w' u (ints (joiF R))) := fun W u hW hu => by
    refine (joints_any hW.1.bk (bkF_ok HO.out)).mono ?_
    intro e w' hq
    rw [joi_back HO.out] at hq
    obtain ⟨v, rfl⟩ : ∃ v, e = .returned v := by obtain ⟨g, e, _⟩ := hq; exact ⟨_, e⟩
    obtain ⟨h1, h2⟩ := NewR.isL hq
    exact ⟨v, rfl, h1, hW.below h2, hu.below h2 (Nat.le_refl _)⟩
  have HSM : Hid (∀ W u v (l : List Nat), BkS w b bb R S Sb q k c5 W → l.length ≤ 100000 → IsL W u (ints l) → IsL W v (ints l) → Calls Try.prog 15 #[u, v] W fun e w' => e = .returned (.bool true) ∧ BkS w b bb R S Sb q k c5 w') := fun W u v l hW hl h1 h2 => by
    refine (same_any h1 h2 (by rw [ints_length]; exact hl)).mono ?_
    rintro e w' ⟨rfl, hs⟩
    exact ⟨by rw [decide_eq_true rfl], hW.below (hs.below (fun _ h => h.elim) (Nat.le_refl _))⟩
  obtain ⟨r, hr⟩ : ∃ r : Bool, r = decide (c ∈ row R a) := ⟨_, rfl⟩
  have HH1 : Hid (∀ W, BkS w b bb R S Sb q k c5 W → Calls Try.prog 10 #[.pointer (some ⟨b, 0, none⟩), .int .i64 (a : Int), .int .i64 (c : Int)] W fun e w' => e = .returned (.bool r) ∧ BkS w b bb R S Sb q k c5 w') := fun W hW => by
    refine (gHas_any hW.1.gr HO.out (a := a) (by rw [HLn.out]; exact hak) c).mono ?_
    rintro e w' ⟨rfl, nq, rfl⟩
    exact ⟨by rw [hr], hW.below (((Kept.refl (fun _ => False) W).drewN nq).below (fun _ h => h.elim) (Nat.le_refl _))⟩
  have HH2 : Hid (∀ W, BkS w b bb R S Sb q k c5 W → Calls Try.prog 10 #[.pointer (some ⟨bb, 0, none⟩), .int .i64 (c : Int), .int .i64 (a : Int)] W fun e w' => e = .returned (.bool r) ∧ BkS w b bb R S Sb q k c5 w') := fun W hW => by
    refine (gHas_any hW.1.bk (bkF_ok HO.out) (a := c) (by rw [bkF_length, HLn.out]; exact hck) a).mono ?_
    rintro e w' ⟨rfl, nq, rfl⟩
    have e9 : decide (a ∈ row (bkF R) c) = r := by rw [hr, decide_eq_decide]; exact mem_bkF HO.out
    exact ⟨by rw [e9], hW.below (((Kept.refl (fun _ => False) W).drewN nq).below (fun _ h => h.elim) (Nat.le_refl _))⟩
  have HS8 : Hid (BkS w b bb R S Sb q k c5 w8) := ⟨HI8.out, HL8.out⟩
  have HC : Hid (∀ W, BkS w b bb R S Sb q k c5 W → W.cell? ⟨q, a, none⟩ = some (.int .i64 ((nv (strF R) a : Nat) : Int)) ∧ W.cell? ⟨q, c, none⟩ = some (.int .i64 ((nv (strF R) c : Nat) : Int))) := fun W hW =>
    ⟨isL_cell hW.2 (by rw [HSL.out]; exact hak), isL_cell hW.2 (by rw [HSL.out]; exact hck)⟩
  have HJL : Hid ((joiF R).length ≤ 100000) := by
    have h1 := rise_length (joi_rise HO.out) (fun x hx => ((mem_joi HO.out).1 hx).1)
    have h2 := HLn.out
    show _ ≤ _
    omega
  have HSLL : Hid ((strF R).length ≤ 100000) := by have h2 := HSL.out; show _ ≤ _; omega
  have HPi : Hid ((((nv (strF R) a : Nat) : Int) = ((nv (strF R) c : Nat) : Int)) ↔ (p1 = true ∧ p2 = true)) := by
    show _ ↔ _
    rw [← HP.out]; omega
  generalize ((nv (strF R) a : Nat) : Int) = z1 at *
  generalize ((nv (strF R) c : Nat) : Int) = z2 at *
  have HK : Hid (∀ W, BkS w b bb R S Sb q k c5 W → (W.cell? ⟨q, a, none⟩ = some (.int .i64 z1) ∧ W.cell? ⟨q, c, none⟩ = some (.int .i64 z2) ∧ BkS w b bb R S Sb q k c5 W)) := fun W hW => ⟨(HC.out W hW).1, (HC.out W hW).2, hW⟩
  have hS8 : BkS w b bb R S Sb q k c5 w8.drew := HS8.out.below (((Kept.refl (fun _ => False) w8).drew).below (fun _ h => h.elim) (Nat.le_refl _))
  have hC8 := HK.out _ hS8
  have key : (z1 = z2 ∧ p1 = true ∧ p2 = true) ∨ (z1 ≠ z2 ∧ p1 = false ∧ p2 = false) ∨ (z1 ≠ z2 ∧ p1 = false ∧ p2 = true) ∨ (z1 ≠ z2 ∧ p1 = true ∧ p2 = false) := by
    have h := HPi.out
    cases p1 <;> cases p2 <;> simp_all
  clear HI8 HL8 hr HP1 HP2 HSL HP HPi HC HS8
  rcases key with ⟨hz, rfl, rfl⟩ | ⟨hz, rfl, rfl⟩ | ⟨hz, rfl, rfl⟩ | ⟨hz, rfl, rfl⟩
  · have d1 : decide (z1 = z2) = true := decide_eq_true hz
    have d2 : (z1 == z2) = true := by simpa using hz
    clear hz
    first | (go_region_held3 (fun W => W.cell? ⟨q, a, none⟩ = some (.int .i64 z1) ∧ W.cell? ⟨q, c, none⟩ = some (.int .i64 z2) ∧ BkS w b bb R S Sb q k c5 W) (first | exact hC8 | exact hC9 | exact hC10 | exact hC11 | exact hC12 | exact hC13 | exact hC14 | exact hC15) (first
      | (go_at_call 19; with_reducible refine (HST.out _ hS8).mono ?_; rintro e w9 ⟨v9, rfl, hL9, hS9⟩; have hC9 := HK.out _ hS9)
      | (go_at_call 15; with_reducible refine (HSM.out _ _ _ (strF R) hS9 HSLL.out hS9.2 hL9).mono ?_; rintro e w10 ⟨rfl, hS10⟩; have hC10 := HK.out _ hS10)
      | (go_at_call 20; with_reducible refine (HJ1.out _ hS10).mono ?_; rintro e w11 ⟨v11, rfl, hL11, hS11⟩; have hC11 := HK.out _ hS11)
      | (go_at_call 20; with_reducible refine (HJ2.out _ _ hS11 hL11).mono ?_; rintro e w12 ⟨v12, rfl, hL12, hS12, hL11'⟩; have hC12 := HK.out _ hS12)
      | (go_at_call 15; with_reducible refine (HSM.out _ _ _ (joiF R) hS12 HJL.out hL11' hL12).mono ?_; rintro e w13 ⟨rfl, hS13⟩; have hC13 := HK.out _ hS13)
      | (go_at_call 10; with_reducible refine (HH1.out _ hS13).mono ?_; rintro e w14 ⟨rfl, hS14⟩; have hC14 := HK.out _ hS14)
      | (go_at_call 10; with_reducible refine (HH2.out _ hS14).mono ?_; rintro e w15 ⟨rfl, hS15⟩; have hC15 := HK.out _ hS15))) | fail
    go_wp2
    go_ret
    exact ⟨rfl, hS15.1.lo⟩
  · have d1 : decide (z1 = z2) = false := decide_eq_false hz
    have d2 : (z1 == z2) = false := by simpa using hz
    clear hz
    refine wp_region_held_drew (S := fun W => W.cell? ⟨q, a, none⟩ = some (.int .i64 z1) ∧ W.cell? ⟨q, c, none⟩ = some (.int .i64 z2) ∧ BkS w b bb R S Sb q k c5 W) (by kernel_rfl) hC8 (fun hHeld => ?_)
    simp only [List.size_toArray, List.length_cons, List.length_nil, Nat.reduceAdd, Array.replicate_succ, Array.replicate_zero, List.push_toArray, List.nil_append, List.cons_append, List.append_toArray]
    refine take_op (i := 0) (v := ?_) rfl (by kernel_rfl) (by kernel_rfl) (by kernel_rfl) (fun _ _ _ h => h) (Or.inl ⟨by rfl, ?_⟩) (by assumption) ?_
    rotate_left
    · (intro w' hSw; (try dsimp only at hSw); go_simp; (try with_reducible rfl))
    simp only [Act.put, List.setIfInBounds_toArray, List.set_cons_zero, List.set_cons_succ]
    refine take_op (i := 1) (v := ?_) rfl (by kernel_rfl) (by kernel_rfl) (by kernel_rfl) (fun _ _ _ h => h) (Or.inl ⟨by rfl, ?_⟩) (by assumption) ?_
    rotate_left
    · (intro w' hSw; (try dsimp only at hSw); go_simp; (try with_reducible rfl))
    simp only [Act.put, List.setIfInBounds_toArray, List.set_cons_zero, List.set_cons_succ]
    refine take_op (i := 2) (v := ?_) rfl (by kernel_rfl) (by kernel_rfl) (by kernel_rfl) (fun _ _ _ h => h) (Or.inl ⟨by rfl, ?_⟩) (by assumption) ?_
    rotate_left
    · (intro w' hSw; (try dsimp only at hSw); go_simp; (try with_reducible rfl))
    simp only [Act.put, List.setIfInBounds_toArray, List.set_cons_zero, List.set_cons_succ]
    refine take_op (i := 3) (v := ?_) rfl (by kernel_rfl) (by kernel_rfl) (by kernel_rfl) (fun _ _ _ h => h) (Or.inl ⟨by rfl, ?_⟩) (by assumption) ?_
    rotate_left
    · (intro w' hSw; (try dsimp only at hSw); go_simp; (try with_reducible rfl))
    simp only [Act.put, List.setIfInBounds_toArray, List.set_cons_zero, List.set_cons_succ]
    refine wpAnyH_ready (rs := [4]) (by kernel_rfl) (by simp) ?_
    refine cons_op rfl (fun K hK => ?_) AllReadyH.nil
    go_simp
    with_reducible refine (HST.out _ hS8).mono ?_
    rintro e w9 ⟨v9, rfl, hL9, hS9⟩
    have hC9 := HK.out _ hS9
    (try go_wp2_with fail)
    refine hK.out _ _ hC9 (fun hHeld => ?_)
    clear hK K
    (try simp only [Act.put, List.setIfInBounds_toArray, List.set_cons_zero, List.set_cons_succ])
    refine wpAnyH_ready (rs := [5]) (by kernel_rfl) (by simp) ?_
    refine cons_op rfl (fun K hK => ?_) AllReadyH.nil
    go_simp
    with_reducible refine (HSM.out _ _ _ (strF R) hS9 HSLL.out hS9.2 hL9).mono ?_
    rintro e w10 ⟨rfl, hS10⟩
    have hC10 := HK.out _ hS10
    (try go_wp2_with fail)
    refine hK.out _ _ hC10 (fun hHeld => ?_)
    clear hK K
    (try simp only [Act.put, List.setIfInBounds_toArray, List.set_cons_zero, List.set_cons_succ])
    refine take_op (i := 6) (v := ?_) rfl (by kernel_rfl) (by kernel_rfl) (by kernel_rfl) (fun _ _ _ h => h) (Or.inl ⟨by rfl, ?_⟩) (by assumption) ?_
    rotate_left
    · (intro w' hSw; (try dsimp only at hSw); go_simp; (try with_reducible rfl))
    simp only [Act.put, List.setIfInBounds_toArray, List.set_cons_zero, List.set_cons_succ]
    refine take_op (i := 7) (v := ?_) rfl (by kernel_rfl) (by kernel_rfl) (by kernel_rfl) (fun _ _ _ h => h) (Or.inl ⟨by rfl, ?_⟩) (by assumption) ?_
    rotate_left
    · (intro w' hSw; (try dsimp only at hSw); go_simp; (try with_reducible rfl))
    simp only [Act.put, List.setIfInBounds_toArray, List.set_cons_zero, List.set_cons_succ]
    refine take_op (i := 8) (v := ?_) rfl (by kernel_rfl) (by kernel_rfl) (by kernel_rfl) (fun _ _ _ h => h) (Or.inl ⟨by rfl, ?_⟩) (by assumption) ?_
    rotate_left
    · (intro w' hSw; (try dsimp only at hSw); go_simp; (try with_reducible rfl))
    simp only [Act.put, List.setIfInBounds_toArray, List.set_cons_zero, List.set_cons_succ]
    refine take_op (i := 10) (v := ?_) rfl (by kernel_rfl) (by kernel_rfl) (by kernel_rfl) (fun _ _ _ h => h) (Or.inl ⟨by rfl, ?_⟩) (by assumption) ?_
    rotate_left
    · (intro w' hSw; (try dsimp only at hSw); go_simp; (try with_reducible rfl))
    simp only [Act.put, List.setIfInBounds_toArray, List.set_cons_zero, List.set_cons_succ]
    refine wpAnyH_ready (rs := [9]) (by kernel_rfl) (by simp) ?_
    refine cons_op rfl (fun K hK => ?_) AllReadyH.nil
    go_simp
    with_reducible refine (HJ1.out _ hS10).mono ?_
    rintro e w11 ⟨v11, rfl, hL11, hS11⟩
    have hC11 := HK.out _ hS11
    (try go_wp2_with fail)
    refine hK.out _ _ hC11 (fun hHeld => ?_)
    clear hK K
    (try simp only [Act.put, List.setIfInBounds_toArray, List.set_cons_zero, List.set_cons_succ])
    refine wpAnyH_ready (rs := [11]) (by kernel_rfl) (by simp) ?_
    refine cons_op rfl (fun K hK => ?_) AllReadyH.nil
    go_simp
    with_reducible refine (HJ2.out _ _ hS11 hL11).mono ?_
    rintro e w12 ⟨v12, rfl, hL12, hS12, hL11'⟩
    have hC12 := HK.out _ hS12
    (try go_wp2_with fail)
    refine hK.out _ _ hC12 (fun hHeld => ?_)
    clear hK K
    (try simp only [Act.put, List.setIfInBounds_toArray, List.set_cons_zero, List.set_cons_succ])
    refine wpAnyH_ready (rs := [12]) (by kernel_rfl) (by simp) ?_
    refine cons_op rfl (fun K hK => ?_) AllReadyH.nil
    go_simp
    with_reducible refine (HSM.out _ _ _ (joiF R) hS12 HJL.out hL11' hL12).mono ?_
    rintro e w13 ⟨rfl, hS13⟩
    have hC13 := HK.out _ hS13
    (try go_wp2_with fail)
    refine hK.out _ _ hC13 (fun hHeld => ?_)
    clear hK K
    (try simp only [Act.put, List.setIfInBounds_toArray, List.set_cons_zero, List.set_cons_succ])
    refine take_op (i := 13) (v := ?_) rfl (by kernel_rfl) (by kernel_rfl) (by kernel_rfl) (fun _ _ _ h => h) (Or.inl ⟨by rfl, ?_⟩) (by assumption) ?_
    rotate_left
    · (intro w' hSw; (try dsimp only at hSw); go_simp; (try with_reducible rfl))
    simp only [Act.put, List.setIfInBounds_toArray, List.set_cons_zero, List.set_cons_succ]
    refine take_op (i := 14) (v := ?_) rfl (by kernel_rfl) (by kernel_rfl) (by kernel_rfl) (fun _ _ _ h => h) (Or.inl ⟨by rfl, ?_⟩) (by assumption) ?_
    rotate_left
    · (intro w' hSw; (try dsimp only at hSw); go_simp; (try with_reducible rfl))
    simp only [Act.put, List.setIfInBounds_toArray, List.set_cons_zero, List.set_cons_succ]
    refine take_op (i := 15) (v := ?_) rfl (by kernel_rfl) (by kernel_rfl) (by kernel_rfl) (fun _ _ _ h => h) (Or.inl ⟨by rfl, ?_⟩) (by assumption) ?_
    rotate_left
    · (intro w' hSw; (try dsimp only at hSw); go_simp; (try with_reducible rfl))
    simp only [Act.put, List.setIfInBounds_toArray, List.set_cons_zero, List.set_cons_succ]
    refine take_op (i := 16) (v := ?_) rfl (by kernel_rfl) (by kernel_rfl) (by kernel_rfl) (fun _ _ _ h => h) (Or.inl ⟨by rfl, ?_⟩) (by assumption) ?_
    rotate_left
    · (intro w' hSw; (try dsimp only at hSw); go_simp; (try with_reducible rfl))
    simp only [Act.put, List.setIfInBounds_toArray, List.set_cons_zero, List.set_cons_succ]
    refine take_op (i := 17) (v := ?_) rfl (by kernel_rfl) (by kernel_rfl) (by kernel_rfl) (fun _ _ _ h => h) (Or.inl ⟨by rfl, ?_⟩) (by assumption) ?_
    rotate_left
    · (intro w' hSw; (try dsimp only at hSw); go_simp; (try with_reducible rfl))
    simp only [Act.put, List.setIfInBounds_toArray, List.set_cons_zero, List.set_cons_succ]
    refine take_op (i := 18) (v := ?_) rfl (by kernel_rfl) (by kernel_rfl) (by kernel_rfl) (fun _ _ _ h => h) (Or.inl ⟨by rfl, ?_⟩) (by assumption) ?_
    rotate_left
    · (intro w' hSw; (try dsimp only at hSw); go_simp; (try with_reducible rfl))
    simp only [Act.put, List.setIfInBounds_toArray, List.set_cons_zero, List.set_cons_succ]
    refine take_op (i := 19) (v := ?_) rfl (by kernel_rfl) (by kernel_rfl) (by kernel_rfl) (fun _ _ _ h => h) (Or.inl ⟨by rfl, ?_⟩) (by assumption) ?_
    rotate_left
    · (intro w' hSw; (try dsimp only at hSw); go_simp; (try with_reducible rfl))
    simp only [Act.put, List.setIfInBounds_toArray, List.set_cons_zero, List.set_cons_succ]
    refine take_op (i := 20) (v := ?_) rfl (by kernel_rfl) (by kernel_rfl) (by kernel_rfl) (fun _ _ _ h => h) (Or.inl ⟨by rfl, ?_⟩) (by assumption) ?_
    rotate_left
    · (intro w' hSw; (try dsimp only at hSw); go_simp; (try with_reducible rfl))
    simp only [Act.put, List.setIfInBounds_toArray, List.set_cons_zero, List.set_cons_succ]
    refine take_op (i := 21) (v := ?_) rfl (by kernel_rfl) (by kernel_rfl) (by kernel_rfl) (fun _ _ _ h => h) (Or.inl ⟨by rfl, ?_⟩) (by assumption) ?_
    rotate_left
    · (intro w' hSw; (try dsimp only at hSw); go_simp; (try with_reducible rfl))
    simp only [Act.put, List.setIfInBounds_toArray, List.set_cons_zero, List.set_cons_succ]
    refine take_op (i := 22) (v := ?_) rfl (by kernel_rfl) (by kernel_rfl) (by kernel_rfl) (fun _ _ _ h => h) (Or.inl ⟨by rfl, ?_⟩) (by assumption) ?_
    rotate_left
    · (intro w' hSw; (try dsimp only at hSw); go_simp; (try with_reducible rfl))
    simp only [Act.put, List.setIfInBounds_toArray, List.set_cons_zero, List.set_cons_succ]
    refine take_op (i := 23) (v := ?_) rfl (by kernel_rfl) (by kernel_rfl) (by kernel_rfl) (fun _ _ _ h => h) (Or.inl ⟨by rfl, ?_⟩) (by assumption) ?_
    rotate_left
    · (intro w' hSw; (try dsimp only at hSw); go_simp; (try with_reducible rfl))
    simp only [Act.put, List.setIfInBounds_toArray, List.set_cons_zero, List.set_cons_succ]
    refine take_op (i := 24) (v := ?_) rfl (by kernel_rfl) (by kernel_rfl) (by kernel_rfl) (fun _ _ _ h => h) (Or.inl ⟨by rfl, ?_⟩) (by assumption) ?_
    rotate_left
    · (intro w' hSw; (try dsimp only at hSw); go_simp; (try with_reducible rfl))
    simp only [Act.put, List.setIfInBounds_toArray, List.set_cons_zero, List.set_cons_succ]
    refine take_op (i := 25) (v := ?_) rfl (by kernel_rfl) (by kernel_rfl) (by kernel_rfl) (fun _ _ _ h => h) (Or.inl ⟨by rfl, ?_⟩) (by assumption) ?_
    rotate_left
    · (intro w' hSw; (try dsimp only at hSw); go_simp; (try with_reducible rfl))
    simp only [Act.put, List.setIfInBounds_toArray, List.set_cons_zero, List.set_cons_succ]
    refine take_op (i := 26) (v := ?_) rfl (by kernel_rfl) (by kernel_rfl) (by kernel_rfl) (fun _ _ _ h => h) (Or.inl ⟨by rfl, ?_⟩) (by assumption) ?_
    rotate_left
    · (intro w' hSw; (try dsimp only at hSw); go_simp; (try with_reducible rfl))
    simp only [Act.put, List.setIfInBounds_toArray, List.set_cons_zero, List.set_cons_succ]
    refine take_op (i := 27) (v := ?_) rfl (by kernel_rfl) (by kernel_rfl) (by kernel_rfl) (fun _ _ _ h => h) (Or.inl ⟨by rfl, ?_⟩) (by assumption) ?_
    rotate_left
    · (intro w' hSw; (try dsimp only at hSw); go_simp; (try with_reducible rfl))
    simp only [Act.put, List.setIfInBounds_toArray, List.set_cons_zero, List.set_cons_succ]
    refine take_op (i := 28) (v := ?_) rfl (by kernel_rfl) (by kernel_rfl) (by kernel_rfl) (fun _ _ _ h => h) (Or.inl ⟨by rfl, ?_⟩) (by assumption) ?_
    rotate_left
    · (intro w' hSw; (try dsimp only at hSw); go_simp; (try with_reducible rfl))
    simp only [Act.put, List.setIfInBounds_toArray, List.set_cons_zero, List.set_cons_succ]
    refine take_op (i := 29) (v := ?_) rfl (by kernel_rfl) (by kernel_rfl) (by kernel_rfl) (fun _ _ _ h => h) (Or.inl ⟨by rfl, ?_⟩) (by assumption) ?_
    rotate_left
    · (intro w' hSw; (try dsimp only at hSw); go_simp; (try with_reducible rfl))
    simp only [Act.put, List.setIfInBounds_toArray, List.set_cons_zero, List.set_cons_succ]
    refine take_op (i := 30) (v := ?_) rfl (by kernel_rfl) (by kernel_rfl) (by kernel_rfl) (fun _ _ _ h => h) (Or.inl ⟨by rfl, ?_⟩) (by assumption) ?_
    rotate_left
    · (intro w' hSw; (try dsimp only at hSw); go_simp; (try with_reducible rfl))
    simp only [Act.put, List.setIfInBounds_toArray, List.set_cons_zero, List.set_cons_succ]
    refine take_op (i := 31) rfl (by kernel_rfl) (by kernel_rfl) (by kernel_rfl) (fun _ _ _ h => h) (Or.inr ⟨by rfl, rfl⟩) (by assumption) ?_
    (try simp only [Act.put, List.setIfInBounds_toArray, List.set_cons_zero, List.set_cons_succ])
    refine take_op (i := 32) (v := ?_) rfl (by kernel_rfl) (by kernel_rfl) (by kernel_rfl) (fun _ _ _ h => h) (Or.inl ⟨by rfl, ?_⟩) (by assumption) ?_
    rotate_left
    · (intro w' hSw; (try dsimp only at hSw); go_simp; (try with_reducible rfl))
    simp only [Act.put, List.setIfInBounds_toArray, List.set_cons_zero, List.set_cons_succ]
    refine take_op (i := 33) (v := ?_) rfl (by kernel_rfl) (by kernel_rfl) (by kernel_rfl) (fun _ _ _ h => h) (Or.inl ⟨by rfl, ?_⟩) (by assumption) ?_
    rotate_left
    · (intro w' hSw; (try dsimp only at hSw); go_simp; (try with_reducible rfl))
    simp only [Act.put, List.setIfInBounds_toArray, List.set_cons_zero, List.set_cons_succ]
    refine take_op (i := 34) (v := ?_) rfl (by kernel_rfl) (by kernel_rfl) (by kernel_rfl) (fun _ _ _ h => h) (Or.inl ⟨by rfl, ?_⟩) (by assumption) ?_
    rotate_left
    · (intro w' hSw; (try dsimp only at hSw); go_simp; (try with_reducible rfl))
    simp only [Act.put, List.setIfInBounds_toArray, List.set_cons_zero, List.set_cons_succ]
    refine take_op (i := 35) (v := ?_) rfl (by kernel_rfl) (by kernel_rfl) (by kernel_rfl) (fun _ _ _ h => h) (Or.inl ⟨by rfl, ?_⟩) (by assumption) ?_
    rotate_left
    · (intro w' hSw; (try dsimp only at hSw); go_simp; (try with_reducible rfl))
    simp only [Act.put, List.setIfInBounds_toArray, List.set_cons_zero, List.set_cons_succ]
    refine take_op (i := 36) (v := ?_) rfl (by kernel_rfl) (by kernel_rfl) (by kernel_rfl) (fun _ _ _ h => h) (Or.inl ⟨by rfl, ?_⟩) (by assumption) ?_
    rotate_left
    · (intro w' hSw; (try dsimp only at hSw); go_simp; (try with_reducible rfl))
    simp only [Act.put, List.setIfInBounds_toArray, List.set_cons_zero, List.set_cons_succ]
    refine take_op (i := 37) (v := ?_) rfl (by kernel_rfl) (by kernel_rfl) (by kernel_rfl) (fun _ _ _ h => h) (Or.inl ⟨by rfl, ?_⟩) (by assumption) ?_
    rotate_left
    · (intro w' hSw; (try dsimp only at hSw); go_simp; (try with_reducible rfl))
    simp only [Act.put, List.setIfInBounds_toArray, List.set_cons_zero, List.set_cons_succ]
    refine take_op (i := 38) (v := ?_) rfl (by kernel_rfl) (by kernel_rfl) (by kernel_rfl) (fun _ _ _ h => h) (Or.inl ⟨by rfl, ?_⟩) (by assumption) ?_
    rotate_left
    · (intro w' hSw; (try dsimp only at hSw); go_simp; (try with_reducible rfl))
    simp only [Act.put, List.setIfInBounds_toArray, List.set_cons_zero, List.set_cons_succ]
    refine take_op (i := 40) (v := ?_) rfl (by kernel_rfl) (by kernel_rfl) (by kernel_rfl) (fun _ _ _ h => h) (Or.inl ⟨by rfl, ?_⟩) (by assumption) ?_
    rotate_left
    · (intro w' hSw; (try dsimp only at hSw); go_simp; (try with_reducible rfl))
    simp only [Act.put, List.setIfInBounds_toArray, List.set_cons_zero, List.set_cons_succ]
    refine take_op (i := 41) (v := ?_) rfl (by kernel_rfl) (by kernel_rfl) (by kernel_rfl) (fun _ _ _ h => h) (Or.inl ⟨by rfl, ?_⟩) (by assumption) ?_
    rotate_left
    · (intro w' hSw; (try dsimp only at hSw); go_simp; (try with_reducible rfl))
    simp only [Act.put, List.setIfInBounds_toArray, List.set_cons_zero, List.set_cons_succ]
    refine take_op (i := 42) (v := ?_) rfl (by kernel_rfl) (by kernel_rfl) (by kernel_rfl) (fun _ _ _ h => h) (Or.inl ⟨by rfl, ?_⟩) (by assumption) ?_
    rotate_left
    · (intro w' hSw; (try dsimp only at hSw); go_simp; (try with_reducible rfl))
    simp only [Act.put, List.setIfInBounds_toArray, List.set_cons_zero, List.set_cons_succ]
    refine wpAnyH_ready (rs := [39]) (by kernel_rfl) (by simp) ?_
    refine cons_op rfl (fun K hK => ?_) AllReadyH.nil
    go_simp
    with_reducible refine (HH1.out _ hS13).mono ?_
    rintro e w14 ⟨rfl, hS14⟩
    have hC14 := HK.out _ hS14
    (try go_wp2_with fail)
    refine hK.out _ _ hC14 (fun hHeld => ?_)
    clear hK K
    (try simp only [Act.put, List.setIfInBounds_toArray, List.set_cons_zero, List.set_cons_succ])
    refine wpAnyH_ready (rs := [43]) (by kernel_rfl) (by simp) ?_
    refine cons_op rfl (fun K hK => ?_) AllReadyH.nil
    go_simp
    with_reducible refine (HH2.out _ hS14).mono ?_
    rintro e w15 ⟨rfl, hS15⟩
    have hC15 := HK.out _ hS15
    (try go_wp2_with fail)
    refine hK.out _ _ hC15 (fun hHeld => ?_)
    clear hK K
    (try simp only [Act.put, List.setIfInBounds_toArray, List.set_cons_zero, List.set_cons_succ])
    refine take_op (i := 44) (v := ?_) rfl (by kernel_rfl) (by kernel_rfl) (by kernel_rfl) (fun _ _ _ h => h) (Or.inl ⟨by rfl, ?_⟩) (by assumption) ?_
    rotate_left
    · (intro w' hSw; (try dsimp only at hSw); go_simp; (try with_reducible rfl))
    simp only [Act.put, List.setIfInBounds_toArray, List.set_cons_zero, List.set_cons_succ]
    refine take_op (i := 45) (v := ?_) rfl (by kernel_rfl) (by kernel_rfl) (by kernel_rfl) (fun _ _ _ h => h) (Or.inl ⟨by rfl, ?_⟩) (by assumption) ?_
    rotate_left
    · (intro w' hSw; (try dsimp only at hSw); go_simp; (try with_reducible rfl))
    simp only [Act.put, List.setIfInBounds_toArray, List.set_cons_zero, List.set_cons_succ]
    refine take_op (i := 46) (v := ?_) rfl (by kernel_rfl) (by kernel_rfl) (by kernel_rfl) (fun _ _ _ h => h) (Or.inl ⟨by rfl, ?_⟩) (by assumption) ?_
    rotate_left
    · (intro w' hSw; (try dsimp only at hSw); go_simp; (try with_reducible rfl))
    simp only [Act.put, List.setIfInBounds_toArray, List.set_cons_zero, List.set_cons_succ]
    refine wpAnyH_done (by kernel_rfl) ?_ _
    go_wp2
    go_ret
    exact ⟨rfl, hS15.1.lo⟩
  · have d1 : decide (z1 = z2) = false := decide_eq_false hz
    have d2 : (z1 == z2) = false := by simpa using hz
    clear hz
    refine wp_region_held_drew (S := fun W => W.cell? ⟨q, a, none⟩ = some (.int .i64 z1) ∧ W.cell? ⟨q, c, none⟩ = some (.int .i64 z2) ∧ BkS w b bb R S Sb q k c5 W) (by kernel_rfl) hC8 (fun hHeld => ?_)
    simp only [List.size_toArray, List.length_cons, List.length_nil, Nat.reduceAdd, Array.replicate_succ, Array.replicate_zero, List.push_toArray, List.nil_append, List.cons_append, List.append_toArray]
    refine take_op (i := 0) (v := ?_) rfl (by kernel_rfl) (by kernel_rfl) (by kernel_rfl) (fun _ _ _ h => h) (Or.inl ⟨by rfl, ?_⟩) (by assumption) ?_
    rotate_left
    · (intro w' hSw; (try dsimp only at hSw); go_simp; (try with_reducible rfl))
    simp only [Act.put, List.setIfInBounds_toArray, List.set_cons_zero, List.set_cons_succ]
    refine take_op (i := 1) (v := ?_) rfl (by kernel_rfl) (by kernel_rfl) (by kernel_rfl) (fun _ _ _ h => h) (Or.inl ⟨by rfl, ?_⟩) (by assumption) ?_
    rotate_left
    · (intro w' hSw; (try dsimp only at hSw); go_simp; (try with_reducible rfl))
    simp only [Act.put, List.setIfInBounds_toArray, List.set_cons_zero, List.set_cons_succ]
    refine take_op (i := 2) (v := ?_) rfl (by kernel_rfl) (by kernel_rfl) (by kernel_rfl) (fun _ _ _ h => h) (Or.inl ⟨by rfl, ?_⟩) (by assumption) ?_
    rotate_left
    · (intro w' hSw; (try dsimp only at hSw); go_simp; (try with_reducible rfl))
    simp only [Act.put, List.setIfInBounds_toArray, List.set_cons_zero, List.set_cons_succ]
    refine take_op (i := 3) (v := ?_) rfl (by kernel_rfl) (by kernel_rfl) (by kernel_rfl) (fun _ _ _ h => h) (Or.inl ⟨by rfl, ?_⟩) (by assumption) ?_
    rotate_left
    · (intro w' hSw; (try dsimp only at hSw); go_simp; (try with_reducible rfl))
    simp only [Act.put, List.setIfInBounds_toArray, List.set_cons_zero, List.set_cons_succ]
    refine wpAnyH_ready (rs := [4]) (by kernel_rfl) (by simp) ?_
    refine cons_op rfl (fun K hK => ?_) AllReadyH.nil
    go_simp
    with_reducible refine (HST.out _ hS8).mono ?_
    rintro e w9 ⟨v9, rfl, hL9, hS9⟩
    have hC9 := HK.out _ hS9
    (try go_wp2_with fail)
    refine hK.out _ _ hC9 (fun hHeld => ?_)
    clear hK K
    (try simp only [Act.put, List.setIfInBounds_toArray, List.set_cons_zero, List.set_cons_succ])
    refine wpAnyH_ready (rs := [5]) (by kernel_rfl) (by simp) ?_
    refine cons_op rfl (fun K hK => ?_) AllReadyH.nil
    go_simp
    with_reducible refine (HSM.out _ _ _ (strF R) hS9 HSLL.out hS9.2 hL9).mono ?_
    rintro e w10 ⟨rfl, hS10⟩
    have hC10 := HK.out _ hS10
    (try go_wp2_with fail)
    refine hK.out _ _ hC10 (fun hHeld => ?_)
    clear hK K
    (try simp only [Act.put, List.setIfInBounds_toArray, List.set_cons_zero, List.set_cons_succ])
    refine take_op (i := 6) (v := ?_) rfl (by kernel_rfl) (by kernel_rfl) (by kernel_rfl) (fun _ _ _ h => h) (Or.inl ⟨by rfl, ?_⟩) (by assumption) ?_
    rotate_left
    · (intro w' hSw; (try dsimp only at hSw); go_simp; (try with_reducible rfl))
    simp only [Act.put, List.setIfInBounds_toArray, List.set_cons_zero, List.set_cons_succ]
    refine take_op (i := 7) (v := ?_) rfl (by kernel_rfl) (by kernel_rfl) (by kernel_rfl) (fun _ _ _ h => h) (Or.inl ⟨by rfl, ?_⟩) (by assumption) ?_
    rotate_left
    · (intro w' hSw; (try dsimp only at hSw); go_simp; (try with_reducible rfl))
    simp only [Act.put, List.setIfInBounds_toArray, List.set_cons_zero, List.set_cons_succ]
    refine take_op (i := 8) (v := ?_) rfl (by kernel_rfl) (by kernel_rfl) (by kernel_rfl) (fun _ _ _ h => h) (Or.inl ⟨by rfl, ?_⟩) (by assumption) ?_
    rotate_left
    · (intro w' hSw; (try dsimp only at hSw); go_simp; (try with_reducible rfl))
    simp only [Act.put, List.setIfInBounds_toArray, List.set_cons_zero, List.set_cons_succ]
    refine take_op (i := 10) (v := ?_) rfl (by kernel_rfl) (by kernel_rfl) (by kernel_rfl) (fun _ _ _ h => h) (Or.inl ⟨by rfl, ?_⟩) (by assumption) ?_
    rotate_left
    · (intro w' hSw; (try dsimp only at hSw); go_simp; (try with_reducible rfl))
    simp only [Act.put, List.setIfInBounds_toArray, List.set_cons_zero, List.set_cons_succ]
    refine wpAnyH_ready (rs := [9]) (by kernel_rfl) (by simp) ?_
    refine cons_op rfl (fun K hK => ?_) AllReadyH.nil
    go_simp
    with_reducible refine (HJ1.out _ hS10).mono ?_
    rintro e w11 ⟨v11, rfl, hL11, hS11⟩
    have hC11 := HK.out _ hS11
    (try go_wp2_with fail)
    refine hK.out _ _ hC11 (fun hHeld => ?_)
    clear hK K
    (try simp only [Act.put, List.setIfInBounds_toArray, List.set_cons_zero, List.set_cons_succ])
    refine wpAnyH_ready (rs := [11]) (by kernel_rfl) (by simp) ?_
    refine cons_op rfl (fun K hK => ?_) AllReadyH.nil
    go_simp
    with_reducible refine (HJ2.out _ _ hS11 hL11).mono ?_
    rintro e w12 ⟨v12, rfl, hL12, hS12, hL11'⟩
    have hC12 := HK.out _ hS12
    (try go_wp2_with fail)
    refine hK.out _ _ hC12 (fun hHeld => ?_)
    clear hK K
    (try simp only [Act.put, List.setIfInBounds_toArray, List.set_cons_zero, List.set_cons_succ])
    refine wpAnyH_ready (rs := [12]) (by kernel_rfl) (by simp) ?_
    refine cons_op rfl (fun K hK => ?_) AllReadyH.nil
    go_simp
    with_reducible refine (HSM.out _ _ _ (joiF R) hS12 HJL.out hL11' hL12).mono ?_
    rintro e w13 ⟨rfl, hS13⟩
    have hC13 := HK.out _ hS13
    (try go_wp2_with fail)
    refine hK.out _ _ hC13 (fun hHeld => ?_)
    clear hK K
    (try simp only [Act.put, List.setIfInBounds_toArray, List.set_cons_zero, List.set_cons_succ])
    refine take_op (i := 13) (v := ?_) rfl (by kernel_rfl) (by kernel_rfl) (by kernel_rfl) (fun _ _ _ h => h) (Or.inl ⟨by rfl, ?_⟩) (by assumption) ?_
    rotate_left
    · (intro w' hSw; (try dsimp only at hSw); go_simp; (try with_reducible rfl))
    simp only [Act.put, List.setIfInBounds_toArray, List.set_cons_zero, List.set_cons_succ]
    refine take_op (i := 14) (v := ?_) rfl (by kernel_rfl) (by kernel_rfl) (by kernel_rfl) (fun _ _ _ h => h) (Or.inl ⟨by rfl, ?_⟩) (by assumption) ?_
    rotate_left
    · (intro w' hSw; (try dsimp only at hSw); go_simp; (try with_reducible rfl))
    simp only [Act.put, List.setIfInBounds_toArray, List.set_cons_zero, List.set_cons_succ]
    refine take_op (i := 15) (v := ?_) rfl (by kernel_rfl) (by kernel_rfl) (by kernel_rfl) (fun _ _ _ h => h) (Or.inl ⟨by rfl, ?_⟩) (by assumption) ?_
    rotate_left
    · (intro w' hSw; (try dsimp only at hSw); go_simp; (try with_reducible rfl))
    simp only [Act.put, List.setIfInBounds_toArray, List.set_cons_zero, List.set_cons_succ]
    refine take_op (i := 16) (v := ?_) rfl (by kernel_rfl) (by kernel_rfl) (by kernel_rfl) (fun _ _ _ h => h) (Or.inl ⟨by rfl, ?_⟩) (by assumption) ?_
    rotate_left
    · (intro w' hSw; (try dsimp only at hSw); go_simp; (try with_reducible rfl))
    simp only [Act.put, List.setIfInBounds_toArray, List.set_cons_zero, List.set_cons_succ]
    refine take_op (i := 17) (v := ?_) rfl (by kernel_rfl) (by kernel_rfl) (by kernel_rfl) (fun _ _ _ h => h) (Or.inl ⟨by rfl, ?_⟩) (by assumption) ?_
    rotate_left
    · (intro w' hSw; (try dsimp only at hSw); go_simp; (try with_reducible rfl))
    simp only [Act.put, List.setIfInBounds_toArray, List.set_cons_zero, List.set_cons_succ]
    refine take_op (i := 18) (v := ?_) rfl (by kernel_rfl) (by kernel_rfl) (by kernel_rfl) (fun _ _ _ h => h) (Or.inl ⟨by rfl, ?_⟩) (by assumption) ?_
    rotate_left
    · (intro w' hSw; (try dsimp only at hSw); go_simp; (try with_reducible rfl))
    simp only [Act.put, List.setIfInBounds_toArray, List.set_cons_zero, List.set_cons_succ]
    refine take_op (i := 19) (v := ?_) rfl (by kernel_rfl) (by kernel_rfl) (by kernel_rfl) (fun _ _ _ h => h) (Or.inl ⟨by rfl, ?_⟩) (by assumption) ?_
    rotate_left
    · (intro w' hSw; (try dsimp only at hSw); go_simp; (try with_reducible rfl))
    simp only [Act.put, List.setIfInBounds_toArray, List.set_cons_zero, List.set_cons_succ]
    refine take_op (i := 20) (v := ?_) rfl (by kernel_rfl) (by kernel_rfl) (by kernel_rfl) (fun _ _ _ h => h) (Or.inl ⟨by rfl, ?_⟩) (by assumption) ?_
    rotate_left
    · (intro w' hSw; (try dsimp only at hSw); go_simp; (try with_reducible rfl))
    simp only [Act.put, List.setIfInBounds_toArray, List.set_cons_zero, List.set_cons_succ]
    refine take_op (i := 21) (v := ?_) rfl (by kernel_rfl) (by kernel_rfl) (by kernel_rfl) (fun _ _ _ h => h) (Or.inl ⟨by rfl, ?_⟩) (by assumption) ?_
    rotate_left
    · (intro w' hSw; (try dsimp only at hSw); go_simp; (try with_reducible rfl))
    simp only [Act.put, List.setIfInBounds_toArray, List.set_cons_zero, List.set_cons_succ]
    refine take_op (i := 22) (v := ?_) rfl (by kernel_rfl) (by kernel_rfl) (by kernel_rfl) (fun _ _ _ h => h) (Or.inl ⟨by rfl, ?_⟩) (by assumption) ?_
    rotate_left
    · (intro w' hSw; (try dsimp only at hSw); go_simp; (try with_reducible rfl))
    simp only [Act.put, List.setIfInBounds_toArray, List.set_cons_zero, List.set_cons_succ]
    refine take_op (i := 23) (v := ?_) rfl (by kernel_rfl) (by kernel_rfl) (by kernel_rfl) (fun _ _ _ h => h) (Or.inl ⟨by rfl, ?_⟩) (by assumption) ?_
    rotate_left
    · (intro w' hSw; (try dsimp only at hSw); go_simp; (try with_reducible rfl))
    simp only [Act.put, List.setIfInBounds_toArray, List.set_cons_zero, List.set_cons_succ]
    refine take_op (i := 24) (v := ?_) rfl (by kernel_rfl) (by kernel_rfl) (by kernel_rfl) (fun _ _ _ h => h) (Or.inl ⟨by rfl, ?_⟩) (by assumption) ?_
    rotate_left
    · (intro w' hSw; (try dsimp only at hSw); go_simp; (try with_reducible rfl))
    simp only [Act.put, List.setIfInBounds_toArray, List.set_cons_zero, List.set_cons_succ]
    refine take_op (i := 25) (v := ?_) rfl (by kernel_rfl) (by kernel_rfl) (by kernel_rfl) (fun _ _ _ h => h) (Or.inl ⟨by rfl, ?_⟩) (by assumption) ?_
    rotate_left
    · (intro w' hSw; (try dsimp only at hSw); go_simp; (try with_reducible rfl))
    simp only [Act.put, List.setIfInBounds_toArray, List.set_cons_zero, List.set_cons_succ]
    refine take_op (i := 26) (v := ?_) rfl (by kernel_rfl) (by kernel_rfl) (by kernel_rfl) (fun _ _ _ h => h) (Or.inl ⟨by rfl, ?_⟩) (by assumption) ?_
    rotate_left
    · (intro w' hSw; (try dsimp only at hSw); go_simp; (try with_reducible rfl))
    simp only [Act.put, List.setIfInBounds_toArray, List.set_cons_zero, List.set_cons_succ]
    refine take_op (i := 27) (v := ?_) rfl (by kernel_rfl) (by kernel_rfl) (by kernel_rfl) (fun _ _ _ h => h) (Or.inl ⟨by rfl, ?_⟩) (by assumption) ?_
    rotate_left
    · (intro w' hSw; (try dsimp only at hSw); go_simp; (try with_reducible rfl))
    simp only [Act.put, List.setIfInBounds_toArray, List.set_cons_zero, List.set_cons_succ]
    refine take_op (i := 28) (v := ?_) rfl (by kernel_rfl) (by kernel_rfl) (by kernel_rfl) (fun _ _ _ h => h) (Or.inl ⟨by rfl, ?_⟩) (by assumption) ?_
    rotate_left
    · (intro w' hSw; (try dsimp only at hSw); go_simp; (try with_reducible rfl))
    simp only [Act.put, List.setIfInBounds_toArray, List.set_cons_zero, List.set_cons_succ]
    refine take_op (i := 29) (v := ?_) rfl (by kernel_rfl) (by kernel_rfl) (by kernel_rfl) (fun _ _ _ h => h) (Or.inl ⟨by rfl, ?_⟩) (by assumption) ?_
    rotate_left
    · (intro w' hSw; (try dsimp only at hSw); go_simp; (try with_reducible rfl))
    simp only [Act.put, List.setIfInBounds_toArray, List.set_cons_zero, List.set_cons_succ]
    refine take_op (i := 30) (v := ?_) rfl (by kernel_rfl) (by kernel_rfl) (by kernel_rfl) (fun _ _ _ h => h) (Or.inl ⟨by rfl, ?_⟩) (by assumption) ?_
    rotate_left
    · (intro w' hSw; (try dsimp only at hSw); go_simp; (try with_reducible rfl))
    simp only [Act.put, List.setIfInBounds_toArray, List.set_cons_zero, List.set_cons_succ]
    refine take_op (i := 31) rfl (by kernel_rfl) (by kernel_rfl) (by kernel_rfl) (fun _ _ _ h => h) (Or.inr ⟨by rfl, rfl⟩) (by assumption) ?_
    (try simp only [Act.put, List.setIfInBounds_toArray, List.set_cons_zero, List.set_cons_succ])
    refine take_op (i := 32) (v := ?_) rfl (by kernel_rfl) (by kernel_rfl) (by kernel_rfl) (fun _ _ _ h => h) (Or.inl ⟨by rfl, ?_⟩) (by assumption) ?_
    rotate_left
    · (intro w' hSw; (try dsimp only at hSw); go_simp; (try with_reducible rfl))
    simp only [Act.put, List.setIfInBounds_toArray, List.set_cons_zero, List.set_cons_succ]
    refine take_op (i := 33) (v := ?_) rfl (by kernel_rfl) (by kernel_rfl) (by kernel_rfl) (fun _ _ _ h => h) (Or.inl ⟨by rfl, ?_⟩) (by assumption) ?_
    rotate_left
    · (intro w' hSw; (try dsimp only at hSw); go_simp; (try with_reducible rfl))
    simp only [Act.put, List.setIfInBounds_toArray, List.set_cons_zero, List.set_cons_succ]
    refine take_op (i := 34) (v := ?_) rfl (by kernel_rfl) (by kernel_rfl) (by kernel_rfl) (fun _ _ _ h => h) (Or.inl ⟨by rfl, ?_⟩) (by assumption) ?_
    rotate_left
    · (intro w' hSw; (try dsimp only at hSw); go_simp; (try with_reducible rfl))
    simp only [Act.put, List.setIfInBounds_toArray, List.set_cons_zero, List.set_cons_succ]
    refine take_op (i := 35) (v := ?_) rfl (by kernel_rfl) (by kernel_rfl) (by kernel_rfl) (fun _ _ _ h => h) (Or.inl ⟨by rfl, ?_⟩) (by assumption) ?_
    rotate_left
    · (intro w' hSw; (try dsimp only at hSw); go_simp; (try with_reducible rfl))
    simp only [Act.put, List.setIfInBounds_toArray, List.set_cons_zero, List.set_cons_succ]
    refine take_op (i := 36) (v := ?_) rfl (by kernel_rfl) (by kernel_rfl) (by kernel_rfl) (fun _ _ _ h => h) (Or.inl ⟨by rfl, ?_⟩) (by assumption) ?_
    rotate_left
    · (intro w' hSw; (try dsimp only at hSw); go_simp; (try with_reducible rfl))
    simp only [Act.put, List.setIfInBounds_toArray, List.set_cons_zero, List.set_cons_succ]
    refine take_op (i := 37) (v := ?_) rfl (by kernel_rfl) (by kernel_rfl) (by kernel_rfl) (fun _ _ _ h => h) (Or.inl ⟨by rfl, ?_⟩) (by assumption) ?_
    rotate_left
    · (intro w' hSw; (try dsimp only at hSw); go_simp; (try with_reducible rfl))
    simp only [Act.put, List.setIfInBounds_toArray, List.set_cons_zero, List.set_cons_succ]
    refine take_op (i := 38) (v := ?_) rfl (by kernel_rfl) (by kernel_rfl) (by kernel_rfl) (fun _ _ _ h => h) (Or.inl ⟨by rfl, ?_⟩) (by assumption) ?_
    rotate_left
    · (intro w' hSw; (try dsimp only at hSw); go_simp; (try with_reducible rfl))
    simp only [Act.put, List.setIfInBounds_toArray, List.set_cons_zero, List.set_cons_succ]
    refine take_op (i := 40) (v := ?_) rfl (by kernel_rfl) (by kernel_rfl) (by kernel_rfl) (fun _ _ _ h => h) (Or.inl ⟨by rfl, ?_⟩) (by assumption) ?_
    rotate_left
    · (intro w' hSw; (try dsimp only at hSw); go_simp; (try with_reducible rfl))
    simp only [Act.put, List.setIfInBounds_toArray, List.set_cons_zero, List.set_cons_succ]
    refine take_op (i := 41) (v := ?_) rfl (by kernel_rfl) (by kernel_rfl) (by kernel_rfl) (fun _ _ _ h => h) (Or.inl ⟨by rfl, ?_⟩) (by assumption) ?_
    rotate_left
    · (intro w' hSw; (try dsimp only at hSw); go_simp; (try with_reducible rfl))
    simp only [Act.put, List.setIfInBounds_toArray, List.set_cons_zero, List.set_cons_succ]
    refine take_op (i := 42) (v := ?_) rfl (by kernel_rfl) (by kernel_rfl) (by kernel_rfl) (fun _ _ _ h => h) (Or.inl ⟨by rfl, ?_⟩) (by assumption) ?_
    rotate_left
    · (intro w' hSw; (try dsimp only at hSw); go_simp; (try with_reducible rfl))
    simp only [Act.put, List.setIfInBounds_toArray, List.set_cons_zero, List.set_cons_succ]
    refine wpAnyH_ready (rs := [39]) (by kernel_rfl) (by simp) ?_
    refine cons_op rfl (fun K hK => ?_) AllReadyH.nil
    go_simp
    with_reducible refine (HH1.out _ hS13).mono ?_
    rintro e w14 ⟨rfl, hS14⟩
    have hC14 := HK.out _ hS14
    (try go_wp2_with fail)
    refine hK.out _ _ hC14 (fun hHeld => ?_)
    clear hK K
    (try simp only [Act.put, List.setIfInBounds_toArray, List.set_cons_zero, List.set_cons_succ])
    refine wpAnyH_ready (rs := [43]) (by kernel_rfl) (by simp) ?_
    refine cons_op rfl (fun K hK => ?_) AllReadyH.nil
    go_simp
    with_reducible refine (HH2.out _ hS14).mono ?_
    rintro e w15 ⟨rfl, hS15⟩
    have hC15 := HK.out _ hS15
    (try go_wp2_with fail)
    refine hK.out _ _ hC15 (fun hHeld => ?_)
    clear hK K
    (try simp only [Act.put, List.setIfInBounds_toArray, List.set_cons_zero, List.set_cons_succ])
    refine take_op (i := 44) (v := ?_) rfl (by kernel_rfl) (by kernel_rfl) (by kernel_rfl) (fun _ _ _ h => h) (Or.inl ⟨by rfl, ?_⟩) (by assumption) ?_
    rotate_left
    · (intro w' hSw; (try dsimp only at hSw); go_simp; (try with_reducible rfl))
    simp only [Act.put, List.setIfInBounds_toArray, List.set_cons_zero, List.set_cons_succ]
    refine take_op (i := 45) (v := ?_) rfl (by kernel_rfl) (by kernel_rfl) (by kernel_rfl) (fun _ _ _ h => h) (Or.inl ⟨by rfl, ?_⟩) (by assumption) ?_
    rotate_left
    · (intro w' hSw; (try dsimp only at hSw); go_simp; (try with_reducible rfl))
    simp only [Act.put, List.setIfInBounds_toArray, List.set_cons_zero, List.set_cons_succ]
    refine take_op (i := 46) (v := ?_) rfl (by kernel_rfl) (by kernel_rfl) (by kernel_rfl) (fun _ _ _ h => h) (Or.inl ⟨by rfl, ?_⟩) (by assumption) ?_
    rotate_left
    · (intro w' hSw; (try dsimp only at hSw); go_simp; (try with_reducible rfl))
    simp only [Act.put, List.setIfInBounds_toArray, List.set_cons_zero, List.set_cons_succ]
    refine wpAnyH_done (by kernel_rfl) ?_ _
    go_wp2
    go_ret
    exact ⟨rfl, hS15.1.lo⟩
  · have d1 : decide (z1 = z2) = false := decide_eq_false hz
    have d2 : (z1 == z2) = false := by simpa using hz
    clear hz
    first | (go_region_held3 (fun W => W.cell? ⟨q, a, none⟩ = some (.int .i64 z1) ∧ W.cell? ⟨q, c, none⟩ = some (.int .i64 z2) ∧ BkS w b bb R S Sb q k c5 W) (first | exact hC8 | exact hC9 | exact hC10 | exact hC11 | exact hC12 | exact hC13 | exact hC14 | exact hC15) (first
      | (go_at_call 19; with_reducible refine (HST.out _ hS8).mono ?_; rintro e w9 ⟨v9, rfl, hL9, hS9⟩; have hC9 := HK.out _ hS9)
      | (go_at_call 15; with_reducible refine (HSM.out _ _ _ (strF R) hS9 HSLL.out hS9.2 hL9).mono ?_; rintro e w10 ⟨rfl, hS10⟩; have hC10 := HK.out _ hS10)
      | (go_at_call 20; with_reducible refine (HJ1.out _ hS10).mono ?_; rintro e w11 ⟨v11, rfl, hL11, hS11⟩; have hC11 := HK.out _ hS11)
      | (go_at_call 20; with_reducible refine (HJ2.out _ _ hS11 hL11).mono ?_; rintro e w12 ⟨v12, rfl, hL12, hS12, hL11'⟩; have hC12 := HK.out _ hS12)
      | (go_at_call 15; with_reducible refine (HSM.out _ _ _ (joiF R) hS12 HJL.out hL11' hL12).mono ?_; rintro e w13 ⟨rfl, hS13⟩; have hC13 := HK.out _ hS13)
      | (go_at_call 10; with_reducible refine (HH1.out _ hS13).mono ?_; rintro e w14 ⟨rfl, hS14⟩; have hC14 := HK.out _ hS14)
      | (go_at_call 10; with_reducible refine (HH2.out _ hS14).mono ?_; rintro e w15 ⟨rfl, hS15⟩; have hC15 := HK.out _ hS15))) | fail
    go_wp2
    go_ret
    exact ⟨rfl, hS15.1.lo⟩
end Go.Proofs.Ytlcadkhhpnaofaa
