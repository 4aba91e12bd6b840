/-
  RouteTriangle.
-/
import Derived.Test.YtkedjnhidfnlkaaDoorSh2
namespace Go.Proofs.YtkedjnhidfnlkaaDoor
set_option maxRecDepth 100000
set_option linter.unusedSimpArgs false
open Go Go.RowKit Rq

section
variable {R C : Nat} {ms : List UInt8}
theorem mayZ_nil (fr : Nat) : mayZ [] fr = fun _ => true := by
  funext c
  simp [mayZ]
theorem dist_of {a b x : Int} (h : distZ R C ms a b [] = (x, 0)) : ∃ A B X : Nat, a = (A : Int) ∧ b = (B : Int) ∧ A < ms.length ∧ B < ms.length ∧ freeB ms a = true ∧ freeB ms b = true ∧ x = (X : Int) ∧ Ds (ins R C ms) (fun _ => true) B X A := by
  unfold distZ at h
  split at h
  · rename_i hf
    obtain ⟨h1, h2⟩ := Bool.and_eq_true_iff.1 hf
    obtain ⟨h3, h4⟩ := free_range h1
    obtain ⟨h5, h6⟩ := free_range h2
    obtain ⟨A, rfl⟩ := Int.eq_ofNat_of_zero_le h3
    obtain ⟨B, rfl⟩ := Int.eq_ofNat_of_zero_le h5
    simp only [Int.toNat_natCast] at h
    split at h
    · cases h
    · rename_i D hD
      have hx : (D : Int) = x := (Prod.mk.inj h).1
      rw [dsZ_some (by omega), mayZ_nil] at hD
      exact ⟨A, B, D, rfl, rfl, by omega, by omega, h1, h2, hx.symm, hD⟩
  · cases h
theorem of_dist {A B n : Nat} (_ : A < ms.length) (hB : B < ms.length) (h1 : freeB ms (A : Int) = true) (h2 : freeB ms (B : Int) = true) (hw : Wy (ins R C ms) (fun _ => true) B n A) : ∃ Z : Nat, Z ≤ n ∧ Ds (ins R C ms) (fun _ => true) B Z A ∧ distZ R C ms (A : Int) (B : Int) [] = ((Z : Int), 0) := by
  obtain ⟨Z, hz, hd⟩ := hw.ds
  refine ⟨Z, hz, hd, ?_⟩
  have hd' := hd
  rw [← mayZ_nil A, ← dsZ_some hB] at hd'
  unfold distZ
  rw [h1, h2]
  simp only [Bool.and_self, if_true, Int.toNat_natCast, hd']
theorem dist_bound (hs : ms.length ≤ 1024) (a b : Int) : 0 ≤ (distZ R C ms a b []).1 ∧ (distZ R C ms a b []).1 ≤ 1024 := by
  unfold distZ
  split
  · rename_i hf
    obtain ⟨h1, h2⟩ := Bool.and_eq_true_iff.1 hf
    obtain ⟨h5, h6⟩ := free_range h2
    split
    · simp
    · rename_i D hD
      have := dsZ_lt (by omega) hD
      simp only
      omega
  · simp
theorem tri_sum {bm gm cm : Nat} {w : World} (hE : EM bm gm cm R C ms w) {a b c x f y g z h : Int} (h1 : distZ R C ms a b [] = (x, f)) (h2 : distZ R C ms b c [] = (y, g)) (h3 : distZ R C ms a c [] = (z, h)) (hf : f = 0) (hg : g = 0) : h = 0 ∧ z ≤ x + y ∧ farZ C ms.length a c ≤ z := by
  subst hf hg
  obtain ⟨A, B, X, rfl, rfl, l1, l2, f1, f2, rfl, d1⟩ := dist_of h1
  obtain ⟨B', K, Y, e, rfl, l3, l4, f3, f4, rfl, d2⟩ := dist_of h2
  obtain rfl : B = B' := by omega
  obtain ⟨Z, hz, dz, h4⟩ := of_dist l1 l4 f1 f4 (d2.1.trans d1.1)
  rw [h3] at h4
  obtain ⟨rfl, rfl⟩ := Prod.mk.inj h4
  refine ⟨rfl, by omega, ?_⟩
  have hl := lftE (E := ⟨bm, gm, cm, R, C, ms, 0, 0, 0, A, 0, []⟩) hE l1
  have h5 := hl.le dz.1
  have h6 : farZ C ms.length (A : Int) (K : Int) = ((lftF ⟨bm, gm, cm, R, C, ms, 0, 0, 0, A, 0, []⟩ K : Nat) : Int) := lft_int (E := ⟨bm, gm, cm, R, C, ms, 0, 0, 0, A, 0, []⟩) l1 l4
  have h7 := hl.zero
  rw [h6]
  simp only at h5 h7
  omega
theorem tri_next (hC : 1 ≤ C) (hN : R * C = ms.length) {a c z h n : Int} {y : Nat} (hy : y ∈ nextZ R C ms a) (h3 : distZ R C ms a c [] = (z, h)) (h4 : distZ R C ms (y : Int) c [] = (n, 0)) : h = 0 ∧ z ≤ n + 1 := by
  unfold nextZ at hy
  split at hy
  · rename_i ha
    obtain ⟨A, rfl⟩ := Int.eq_ofNat_of_zero_le ha.1
    have hy' : y ∈ outs R C ms A := hy
    have hA : A < ms.length := by omega
    obtain ⟨_, _, f1, _, hi, _⟩ := out_facts hC hN hA hy'
    obtain ⟨Y, K, X, e, rfl, l1, l2, f2, f3, rfl, d⟩ := dist_of h4
    obtain rfl : y = Y := by omega
    obtain ⟨Z, hz, dz, h5⟩ := of_dist hA l2 f1 f3 (.step d.1 hi rfl)
    rw [h3] at h5
    obtain ⟨rfl, rfl⟩ := Prod.mk.inj h5
    exact ⟨rfl, by omega⟩
  · simp at hy
end

theorem LstN.at_ {bm : Nat} {w : World} {A : Option Addr} {n c : Nat} {l : List Nat} (h : LstN bm w (.slice A n c) l) {j : Nat} (hj : j < l.length) : ∃ g, A = some ⟨g, 0, none⟩ ∧ g ≠ bm ∧ w.cell? ⟨g, j, none⟩ = some (.int .i64 ((l.getD j 0 : Nat) : Int)) := by
  obtain ⟨a, k, e, hc⟩ := h
  cases e
  exact hc j hj
theorem m1_far {w0 w : World} {bm gm cm R C : Nat} {ms : List UInt8} (h : M1 w0 bm gm cm R C ms w) (hp : 0 < ms.length) {a x v : Int} (hv : farZ C ms.length a x = v) : Calls Tryd.prog 31 #[.pointer (some ⟨bm, 0, none⟩), .int .i64 a, .int .i64 x] w fun e w' => e = .returned (.int .i64 v) ∧ M1 w0 bm gm cm R C ms w' := by
  rw [← hv]
  refine (far_any a x h.em hp).mono ?_
  rintro e w' ⟨rfl, n, rfl⟩
  exact ⟨rfl, h.below (bel_drewN (Below.refl _ _) n)⟩
theorem m1_nextN {w0 w : World} {bm gm cm R C : Nat} {ms : List UInt8} (h : M1 w0 bm gm cm R C ms w) (hp : 0 < ms.length) {i : Int} {l : List Nat} (hl : nextZ R C ms i = l) {n : Nat} (hn : l.length = n) : Calls Tryd.prog 33 #[.pointer (some ⟨bm, 0, none⟩), .int .i64 i] w fun e w' => ∃ a c, e = .returned (.slice a n c) ∧ (M1 w0 bm gm cm R C ms w' ∧ LstN bm w' (.slice a n c) l) := by
  subst hl hn
  refine (next_x i h.em hp).mono ?_
  rintro e w' ⟨v, rfl, he, ht, hk, hr, _⟩
  obtain ⟨a, c, rfl, hl⟩ := lstn_of hr h.lt
  exact ⟨a, c, rfl, h.emx ⟨he, ht, hk⟩, hl⟩

set_option maxHeartbeats 1000000 in
theorem tr_out (s : ByteArray) (a b c : Int) (w : World) (hw : Ways w) (hs : s.size ≤ maxLen) (h : 400 < s.size) :
    Calls Tryd.prog 8 #[.string s, .int .i64 a, .int .i64 b, .int .i64 c] w fun e w' => e = .returned (.bool true) ∧ Below w.heap.size w w' := by
  have HA := Lib.hid (ralive_any w hw)
  have HP : Hid (∀ w, Calls Tryd.prog 12 #[.string s] w (ParseSome w)) := fun w => parse_some s w hs
  clear hw hs
  go_enter Tryd.func8, Tryd.ntmps8
  go_wp2_with (first
    | (go_at_call 26; (with_reducible refine HA.out.mono ?_); rintro e w1 ⟨rfl, hb⟩)
    | (go_at_call 12; (with_reducible refine (HP.out _).mono ?_); rintro e w2 ⟨p, l, c, z, rfl, hb2⟩))
  go_ret
  exact ⟨rfl, hb.trans (hb2.mono hb.size)⟩
set_option maxHeartbeats 1000000 in
theorem tr_bad (s : ByteArray) (a b c : Int) (w : World) (hw : Ways w) (hs : s.size ≤ 400) {l k : Nat} (hv : Pure.verdict s.data.toList = .bad l k) :
    Calls Tryd.prog 8 #[.string s, .int .i64 a, .int .i64 b, .int .i64 c] w fun e w' => e = .returned (.bool true) ∧ Below w.heap.size w w' := by
  have HA := Lib.hid (ralive_any w hw)
  have HP := Lib.hid (fun w => parse_bad hv w (by unfold maxLen; omega))
  clear hw hv
  go_enter Tryd.func8, Tryd.ntmps8
  go_wp2_with (first
    | (go_at_call 26; (with_reducible refine HA.out.mono ?_); rintro e w1 ⟨rfl, hb⟩)
    | (go_at_call 12; (with_reducible refine (HP.out _).mono ?_); rintro e w2 ⟨rfl, hb2⟩))
  go_ret
  exact ⟨rfl, hb.trans (hb2.mono hb.size)⟩

set_option maxHeartbeats 4000000 in
theorem tr_good (s : ByteArray) (a b' c : Int) (w : World) (hw : Ways w) (hs : s.size ≤ 400) {R C : Nat} {ms : List UInt8} (hG : Got s w R C ms) (hC : 1 ≤ C) {x f y gg z h : Int} (h1 : distZ R C ms a b' [] = (x, f)) (h2 : distZ R C ms b' c [] = (y, gg)) (h3 : distZ R C ms a c [] = (z, h)) :
    Calls Tryd.prog 8 #[.string s, .int .i64 a, .int .i64 b', .int .i64 c] w fun e w' => e = .returned (.bool true) ∧ Below w.heap.size w w' := by
  have HA := Lib.hid (ralive_any w hw)
  have hbm : ([] : List Int).length ≤ maxLen := by unfold maxLen; simp
  have HP := Lib.hid hG.parse
  obtain ⟨v, hv⟩ : ∃ v, farZ C ms.length a c = v := ⟨_, rfl⟩
  obtain ⟨l, hl⟩ : ∃ l, nextZ R C ms a = l := ⟨_, rfl⟩
  obtain ⟨n, hn⟩ : ∃ n, l.length = n := ⟨_, rfl⟩
  have HD1 : Hid (∀ b g cap W, M1 w b g cap R C ms W → Calls Tryd.prog 16 #[.pointer (some ⟨b, 0, none⟩), .int .i64 a, .int .i64 b', .slice none 0 0] W fun e w' => e = .returned (.tuple #[.int .i64 x, .int .i64 f]) ∧ (M1 w b g cap R C ms w' ∧ W.grownBy w' (some b))) := fun b g cap W h => m1_dist h (ints_nil _ _) (m := 0) rfl hbm h1
  have HD2 : Hid (∀ b g cap W, M1 w b g cap R C ms W → Calls Tryd.prog 16 #[.pointer (some ⟨b, 0, none⟩), .int .i64 b', .int .i64 c, .slice none 0 0] W fun e w' => e = .returned (.tuple #[.int .i64 y, .int .i64 gg]) ∧ (M1 w b g cap R C ms w' ∧ W.grownBy w' (some b))) := fun b g cap W h => m1_dist h (ints_nil _ _) (m := 0) rfl hbm h2
  have HD3 : Hid (∀ b g cap W, M1 w b g cap R C ms W → Calls Tryd.prog 16 #[.pointer (some ⟨b, 0, none⟩), .int .i64 a, .int .i64 c, .slice none 0 0] W fun e w' => e = .returned (.tuple #[.int .i64 z, .int .i64 h]) ∧ (M1 w b g cap R C ms w' ∧ W.grownBy w' (some b))) := fun b g cap W h => m1_dist h (ints_nil _ _) (m := 0) rfl hbm h3
  have HDs : Hid (∀ p q b g cap W, M1 w b g cap R C ms W → Calls Tryd.prog 16 #[.pointer (some ⟨b, 0, none⟩), .int .i64 p, .int .i64 q, .slice none 0 0] W fun e w' => e = .returned (.tuple #[.int .i64 (distZ R C ms p q []).1, .int .i64 (distZ R C ms p q []).2]) ∧ (M1 w b g cap R C ms w' ∧ W.grownBy w' (some b))) := fun p q b g cap W h => m1_dist h (ints_nil _ _) (m := 0) rfl hbm rfl
  have HFa : Hid (∀ b g cap W, M1 w b g cap R C ms W → Calls Tryd.prog 31 #[.pointer (some ⟨b, 0, none⟩), .int .i64 a, .int .i64 c] W fun e w' => e = .returned (.int .i64 v) ∧ M1 w b g cap R C ms w') := fun b g cap W h => m1_far h hG.pos hv
  have HNx : Hid (∀ b g cap W, M1 w b g cap R C ms W → Calls Tryd.prog 33 #[.pointer (some ⟨b, 0, none⟩), .int .i64 a] W fun e w' => ∃ A c, e = .returned (.slice A n c) ∧ (M1 w b g cap R C ms w' ∧ LstN b w' (.slice A n c) l)) := fun b g cap W h => m1_nextN h hG.pos hl hn
  have HS : Hid (∀ bm gm cm W, EM bm gm cm R C ms W → f = 0 → gg = 0 → h = 0 ∧ z ≤ x + y ∧ v ≤ z) := fun bm gm cm W hE e1 e2 => hv ▸ tri_sum hE h1 h2 h3 e1 e2
  have HTr : Hid (∀ k, k < n → (distZ R C ms ((l.getD k 0 : Nat) : Int) c []).2 = 0 → h = 0 ∧ z ≤ (distZ R C ms ((l.getD k 0 : Nat) : Int) c []).1 + 1) := fun k hk e => by
    have hm : l.getD k 0 ∈ nextZ R C ms a := by
      rw [hl, show l.getD k 0 = l[k]'(by omega) by simp [List.getD, hn, hk]]
      exact List.getElem_mem _
    exact tri_next hC hG.hN hm h3 (Prod.ext rfl e)
  have HBd : Hid (∀ p : Int, 0 ≤ (distZ R C ms p c []).1 ∧ (distZ R C ms p c []).1 ≤ 1024) := fun p => dist_bound hG.small p c
  have hb1 := dist_bound (R := R) (C := C) hG.small a b'
  have hb2 := dist_bound (R := R) (C := C) hG.small b' c
  rw [h1] at hb1
  rw [h2] at hb2
  have hwx : IntKind.i64.wrap (x + y) = x + y := IntWalk.i64_in _ (by simp only at hb1 hb2; omega)
  have HLn : Hid (l.length = n) := hn
  have HLb : Hid (n ≤ 4) := by
    show n ≤ 4
    rw [← hn, ← hl]
    unfold nextZ
    split
    · exact outs_len _ _ _ _
    · simp
  clear hw hG h1 h2 h3 hv hl hn hb1 hb2 hbm
  go_enter Tryd.func8, Tryd.ntmps8
  go_wp2_with (first
    | (go_at_call 26; (with_reducible refine HA.out.mono ?_); rintro e w1 ⟨rfl, hb⟩)
    | (go_at_call 12; (with_reducible refine (HP.out w1 hb).mono ?_); rintro e w2 ⟨b, g, cap, rfl, hm2⟩; have H2 := Lib.hid hm2; clear hm2)
    | (go_at_call 16; (with_reducible refine (HD1.out _ _ _ _ H2.out).mono ?_); rintro e w3 ⟨rfl, hm3⟩; have H3 := Lib.hid hm3.1; clear hm3)
    | (go_at_call 16; (with_reducible refine (HD2.out _ _ _ _ H3.out).mono ?_); rintro e w4 ⟨rfl, hm4⟩; have H4 := Lib.hid hm4.1; clear hm4)
    | fail)
  refine (HD3.out _ _ _ _ H4.out).mono ?_
  rintro e w5 ⟨rfl, hm5⟩
  have H5' := Lib.hid hm5.1
  clear hm5
  by_cases ef : f = 0
  · subst ef
    by_cases eg : gg = 0
    · subst eg
      obtain ⟨e1, e2, e3⟩ := HS.out _ _ _ _ H5'.out.em rfl rfl
      subst e1
      have d1 : decide (x + y < z) = false := decide_eq_false (by omega)
      have d2 : decide (z < v) = false := decide_eq_false (by omega)
      clear e2 e3 HS
      go_wp2_with (go_at_call 31; (with_reducible refine (HFa.out _ _ _ _ H5'.out).mono ?_); rintro e w5b ⟨rfl, hm5⟩; have H5b := Lib.hid hm5; clear hm5)
      have H5 : Hid (M1 w b g cap R C ms w5b) := H5b.out
      go_wp2_with (go_at_call 33; (with_reducible refine (HNx.out _ _ _ _ H5.out).mono ?_); rintro e w6 ⟨A6, c6, rfl, hm6⟩; have H6 := Lib.hid hm6; clear hm6)
      go_loopw [21] (fun u wr => ∃ k : Nat, k ≤ n ∧ u = .int .i64 (k : Int) ∧ M1 w b g cap R C ms wr ∧ LstN b wr (.slice A6 n c6) l) (fun u _ => n - (intOf u).toNat)
      case atStart => exact ⟨0, Nat.zero_le _, rfl, H6.out⟩
      case round =>
        obtain ⟨k, hk, rfl, hm, hl⟩ := hrel
        rename World => W
        have HM := Lib.hid hm
        have HL := Lib.hid hl
        clear hm hl
        by_cases hlt : k < n
        · obtain ⟨gk, rfl, hgb, fy⟩ := HL.out.at_ (j := k) (by have := HLn.out; omega)
          have HY := Lib.hid (HTr.out k hlt)
          have HDk := Lib.hid (HDs.out (((l.getD k 0 : Nat) : Int)) c _ _ _ _ HM.out)
          have HB := Lib.hid (HBd.out (((l.getD k 0 : Nat) : Int)))
          obtain ⟨y, hy⟩ : ∃ y, y = l.getD k 0 := ⟨_, rfl⟩
          rw [← hy] at fy HY HDk HB
          obtain ⟨⟨yn, yj⟩, hdy⟩ : ∃ d, d = distZ R C ms ((y : Nat) : Int) c [] := ⟨_, rfl⟩
          rw [← hdy] at HY HDk HB
          clear hy hdy
          simp only at HY HDk HB
          have k0 : (0 : Int) ≤ (k : Int) := by omega
          have k1 : (k : Int) < (n : Int) := by omega
          have hwk : IntKind.i64.wrap ((k : Int) + 1) = (k : Int) + 1 := IntWalk.i64_in _ (by have := HLb.out; omega)
          have hwy : IntKind.i64.wrap (yn + 1) = yn + 1 := IntWalk.i64_in _ (by have := HB.out; omega)
          have HRd : Hid (∀ W', M1 w b g cap R C ms W' → W.grownBy W' (some b) → ∃ k' : Nat, k' ≤ n ∧ Value.int .i64 ((k : Int) + 1) = .int .i64 (k' : Int) ∧ M1 w b g cap R C ms W' ∧ LstN b W' (.slice (some ⟨gk, 0, none⟩) n c6) l) := fun W' h1 h2 => ⟨k + 1, by omega, by go_num, h1, HL.out.grown h2⟩
          clear hgb
          by_cases ej : yj = 0
          · obtain ⟨e1, e2⟩ := HY.out ej
            subst ej
            first | subst e1 | clear e1
            have d2 : decide (yn + 1 < z) = false := decide_eq_false (by omega)
            clear e2
            go_wp2_with (go_at_call 16; (with_reducible refine HDk.out.mono ?_); rintro e w7 ⟨rfl, hm7⟩; have H7 := Lib.hid (HRd.out _ hm7.1 hm7.2); clear hm7)
            go_roundw
            case rel => exact H7.out
            case measure => simp [intOf]; omega
          · have e1 : (yj == 0) = false := by simpa using ej
            clear ej
            go_wp2_with (go_at_call 16; (with_reducible refine HDk.out.mono ?_); rintro e w7 ⟨rfl, hm7⟩; have H7 := Lib.hid (HRd.out _ hm7.1 hm7.2); clear hm7)
            go_roundw
            case rel => exact H7.out
            case measure => simp [intOf]; omega
        · obtain rfl : k = n := by omega
          clear HL
          go_wp2
          go_ret
          exact ⟨rfl, HM.out.bl⟩
    · have d1 : (gg == 0) = false := by simpa using eg
      clear eg HS
      have H5 : Hid (M1 w b g cap R C ms w5) := H5'.out
      go_wp2_with (go_at_call 33; (with_reducible refine (HNx.out _ _ _ _ H5.out).mono ?_); rintro e w6 ⟨A6, c6, rfl, hm6⟩; have H6 := Lib.hid hm6; clear hm6)
      go_loopw [21] (fun u wr => ∃ k : Nat, k ≤ n ∧ u = .int .i64 (k : Int) ∧ M1 w b g cap R C ms wr ∧ LstN b wr (.slice A6 n c6) l) (fun u _ => n - (intOf u).toNat)
      case atStart => exact ⟨0, Nat.zero_le _, rfl, H6.out⟩
      case round =>
        obtain ⟨k, hk, rfl, hm, hl⟩ := hrel
        rename World => W
        have HM := Lib.hid hm
        have HL := Lib.hid hl
        clear hm hl
        by_cases hlt : k < n
        · obtain ⟨gk, rfl, hgb, fy⟩ := HL.out.at_ (j := k) (by have := HLn.out; omega)
          have HY := Lib.hid (HTr.out k hlt)
          have HDk := Lib.hid (HDs.out (((l.getD k 0 : Nat) : Int)) c _ _ _ _ HM.out)
          have HB := Lib.hid (HBd.out (((l.getD k 0 : Nat) : Int)))
          obtain ⟨y, hy⟩ : ∃ y, y = l.getD k 0 := ⟨_, rfl⟩
          rw [← hy] at fy HY HDk HB
          obtain ⟨⟨yn, yj⟩, hdy⟩ : ∃ d, d = distZ R C ms ((y : Nat) : Int) c [] := ⟨_, rfl⟩
          rw [← hdy] at HY HDk HB
          clear hy hdy
          simp only at HY HDk HB
          have k0 : (0 : Int) ≤ (k : Int) := by omega
          have k1 : (k : Int) < (n : Int) := by omega
          have hwk : IntKind.i64.wrap ((k : Int) + 1) = (k : Int) + 1 := IntWalk.i64_in _ (by have := HLb.out; omega)
          have hwy : IntKind.i64.wrap (yn + 1) = yn + 1 := IntWalk.i64_in _ (by have := HB.out; omega)
          have HRd : Hid (∀ W', M1 w b g cap R C ms W' → W.grownBy W' (some b) → ∃ k' : Nat, k' ≤ n ∧ Value.int .i64 ((k : Int) + 1) = .int .i64 (k' : Int) ∧ M1 w b g cap R C ms W' ∧ LstN b W' (.slice (some ⟨gk, 0, none⟩) n c6) l) := fun W' h1 h2 => ⟨k + 1, by omega, by go_num, h1, HL.out.grown h2⟩
          clear hgb
          by_cases ej : yj = 0
          · obtain ⟨e1, e2⟩ := HY.out ej
            subst ej
            first | subst e1 | clear e1
            have d2 : decide (yn + 1 < z) = false := decide_eq_false (by omega)
            clear e2
            go_wp2_with (go_at_call 16; (with_reducible refine HDk.out.mono ?_); rintro e w7 ⟨rfl, hm7⟩; have H7 := Lib.hid (HRd.out _ hm7.1 hm7.2); clear hm7)
            go_roundw
            case rel => exact H7.out
            case measure => simp [intOf]; omega
          · have e1 : (yj == 0) = false := by simpa using ej
            clear ej
            go_wp2_with (go_at_call 16; (with_reducible refine HDk.out.mono ?_); rintro e w7 ⟨rfl, hm7⟩; have H7 := Lib.hid (HRd.out _ hm7.1 hm7.2); clear hm7)
            go_roundw
            case rel => exact H7.out
            case measure => simp [intOf]; omega
        · obtain rfl : k = n := by omega
          clear HL
          go_wp2
          go_ret
          exact ⟨rfl, HM.out.bl⟩
  · have d1 : (f == 0) = false := by simpa using ef
    clear ef HS
    have H5 : Hid (M1 w b g cap R C ms w5) := H5'.out
    go_wp2_with (go_at_call 33; (with_reducible refine (HNx.out _ _ _ _ H5.out).mono ?_); rintro e w6 ⟨A6, c6, rfl, hm6⟩; have H6 := Lib.hid hm6; clear hm6)
    go_loopw [21] (fun u wr => ∃ k : Nat, k ≤ n ∧ u = .int .i64 (k : Int) ∧ M1 w b g cap R C ms wr ∧ LstN b wr (.slice A6 n c6) l) (fun u _ => n - (intOf u).toNat)
    case atStart => exact ⟨0, Nat.zero_le _, rfl, H6.out⟩
    case round =>
      obtain ⟨k, hk, rfl, hm, hl⟩ := hrel
      rename World => W
      have HM := Lib.hid hm
      have HL := Lib.hid hl
      clear hm hl
      by_cases hlt : k < n
      · obtain ⟨gk, rfl, hgb, fy⟩ := HL.out.at_ (j := k) (by have := HLn.out; omega)
        have HY := Lib.hid (HTr.out k hlt)
        have HDk := Lib.hid (HDs.out (((l.getD k 0 : Nat) : Int)) c _ _ _ _ HM.out)
        have HB := Lib.hid (HBd.out (((l.getD k 0 : Nat) : Int)))
        obtain ⟨y, hy⟩ : ∃ y, y = l.getD k 0 := ⟨_, rfl⟩
        rw [← hy] at fy HY HDk HB
        obtain ⟨⟨yn, yj⟩, hdy⟩ : ∃ d, d = distZ R C ms ((y : Nat) : Int) c [] := ⟨_, rfl⟩
        rw [← hdy] at HY HDk HB
        clear hy hdy
        simp only at HY HDk HB
        have k0 : (0 : Int) ≤ (k : Int) := by omega
        have k1 : (k : Int) < (n : Int) := by omega
        have hwk : IntKind.i64.wrap ((k : Int) + 1) = (k : Int) + 1 := IntWalk.i64_in _ (by have := HLb.out; omega)
        have hwy : IntKind.i64.wrap (yn + 1) = yn + 1 := IntWalk.i64_in _ (by have := HB.out; omega)
        have HRd : Hid (∀ W', M1 w b g cap R C ms W' → W.grownBy W' (some b) → ∃ k' : Nat, k' ≤ n ∧ Value.int .i64 ((k : Int) + 1) = .int .i64 (k' : Int) ∧ M1 w b g cap R C ms W' ∧ LstN b W' (.slice (some ⟨gk, 0, none⟩) n c6) l) := fun W' h1 h2 => ⟨k + 1, by omega, by go_num, h1, HL.out.grown h2⟩
        clear hgb
        by_cases ej : yj = 0
        · obtain ⟨e1, e2⟩ := HY.out ej
          subst ej
          first | subst e1 | clear e1
          have d2 : decide (yn + 1 < z) = false := decide_eq_false (by omega)
          clear e2
          go_wp2_with (go_at_call 16; (with_reducible refine HDk.out.mono ?_); rintro e w7 ⟨rfl, hm7⟩; have H7 := Lib.hid (HRd.out _ hm7.1 hm7.2); clear hm7)
          go_roundw
          case rel => exact H7.out
          case measure => simp [intOf]; omega
        · have e1 : (yj == 0) = false := by simpa using ej
          clear ej
          go_wp2_with (go_at_call 16; (with_reducible refine HDk.out.mono ?_); rintro e w7 ⟨rfl, hm7⟩; have H7 := Lib.hid (HRd.out _ hm7.1 hm7.2); clear hm7)
          go_roundw
          case rel => exact H7.out
          case measure => simp [intOf]; omega
      · obtain rfl : k = n := by omega
        clear HL
        go_wp2
        go_ret
        exact ⟨rfl, HM.out.bl⟩

theorem tr_all (s : ByteArray) (a b c : Int) (w : World) (hw : Ways w) (hs : s.size ≤ maxLen) :
    Calls Tryd.prog 8 #[.string s, .int .i64 a, .int .i64 b, .int .i64 c] w fun e w' => e = .returned (.bool true) ∧ Below w.heap.size w w' := by
  by_cases h : 400 < s.size
  · exact tr_out s a b c w hw hs h
  · have h1 : s.size ≤ 400 := Nat.le_of_not_lt h
    cases hv : Pure.verdict s.data.toList with
    | bad l k => exact tr_bad s a b c w hw h1 hv
    | good L => exact tr_good s a b c w hw h1 (got_of hw hs hv) (Pure.good_of hv).1.lo rfl rfl rfl
end Go.Proofs.YtkedjnhidfnlkaaDoor
