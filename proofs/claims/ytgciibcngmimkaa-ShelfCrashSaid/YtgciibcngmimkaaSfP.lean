/-
  ShelfCrash.
-/
import Derived.Test.YtgciibcngmimkaaSfJ
import Derived.Deep.QuietTactic
import Derived.BigQuiet
import Derived.Deep.RegionHeld3
namespace Go.Proofs.Ytgciibcngmimkaa
set_option maxRecDepth 100000
set_option linter.unusedSimpArgs false
open Go Go.RowKit Sf

theorem rem_in (many : Int) (L : Nat) (hL : L ≤ 1000000000000000) : ∃ n : Nat, n ≤ L ∧ (wrap64 (wrap64 (many.tmod ((L : Int) + 1) + (L : Int)) + 1)).tmod ((L : Int) + 1) = (n : Int) := by
  have h1 := Int.tmod_lt_of_pos many (show (0 : Int) < (L : Int) + 1 by omega)
  have h2 := Int.lt_tmod_of_pos many (show (0 : Int) < (L : Int) + 1 by omega)
  have e1 : wrap64 (many.tmod ((L : Int) + 1) + (L : Int)) = many.tmod ((L : Int) + 1) + (L : Int) := IntWalk.wrap64_in _ (by omega)
  rw [e1]
  have e2 : wrap64 (many.tmod ((L : Int) + 1) + (L : Int) + 1) = many.tmod ((L : Int) + 1) + (L : Int) + 1 := IntWalk.wrap64_in _ (by omega)
  rw [e2]
  have h3 := Int.tmod_lt_of_pos (many.tmod ((L : Int) + 1) + (L : Int) + 1) (show (0 : Int) < (L : Int) + 1 by omega)
  have h4 := Int.tmod_nonneg ((L : Int) + 1) (show 0 ≤ many.tmod ((L : Int) + 1) + (L : Int) + 1 by omega)
  exact ⟨((many.tmod ((L : Int) + 1) + (L : Int) + 1).tmod ((L : Int) + 1)).toNat, by omega, by omega⟩
theorem map_getD (l : List Rc) (j : Nat) : (l.map (·.r)).getD j ⟨0, 0, []⟩ = (l.getD j default).r := by
  simp only [List.getD, List.getElem?_map]
  cases l[j]? <;> rfl
theorem belowN {B : Nat} {w W : World} (h : Below B w W) (n : Nat) : Below B w (W.drewN n) := ⟨h.os, h.tape, h.output, h.size, h.block⟩
def smR (l : List Rc) (m j : Nat) : Prop := (l.getD m default).r.k = (l.getD j default).r.k ∧ (l.getD m default).r.n = (l.getD j default).r.n
set_option maxHeartbeats 8000000 in
theorem crash_any {w : World} {A : Option Addr} {l : List Rc} {cap : Nat} (h : RsAt w A l) (hcap : l.length ≤ cap) (hmx : l.length ≤ 1000000000000000) (many : Int) :
    Calls Try.prog 6 #[.slice A l.length cap, .int .i64 many] w fun e w' => e = .returned (.bool true) ∧ Below w.heap.size w w' := by
  obtain ⟨F, hF⟩ : ∃ F, F = w.heap.size := ⟨_, rfl⟩
  obtain ⟨wB, hwB⟩ : ∃ wB : World → Prop, wB = Below w.heap.size w := ⟨_, rfl⟩
  have HD : Hid (∀ V W : World, wB V → Below V.heap.size V W → wB W) := Lib.hid (fun V W h1 h2 => by rw [hwB] at *; exact h1.trans (h2.mono h1.size))
  have HRs : Hid (∀ V : World, wB V → RsAt V A l) := Lib.hid (fun V h1 => by rw [hwB] at h1; exact h.below h1)
  have HB0 : Hid (wB w) := Lib.hid (by rw [hwB]; exact Below.refl _ w)
  have HSz : Hid (∀ V : World, wB V → w.heap.size ≤ V.heap.size) := Lib.hid (fun V h1 => by rw [hwB] at h1; exact h1.size)
  rw [← hwB]
  clear hwB hF F
  obtain ⟨L, hL⟩ : ∃ L, L = l.length := ⟨_, rfl⟩
  obtain ⟨n, hn, hN⟩ := rem_in many L (by rw [hL]; exact hmx)
  have hLc : L ≤ cap := by rw [hL]; exact hcap
  have hLm : L ≤ 1000000000000000 := by rw [hL]; exact hmx
  have HL := Lib.hid hL
  have HGr := Lib.hid (fun (V : World) (hV : wB V) => great_any (w := V) cap (HRs.out V hV) hmx)
  rw [← hL] at HGr ⊢
  clear hL hcap hmx h
  go_enter Try.func6, Try.ntmps6
  go_wp2_with fail
  (with_reducible refine (alive_any _).mono ?_)
  rintro e W1 ⟨rfl, hb⟩
  have HB1 := Lib.hid (HD.out _ _ HB0.out hb)
  clear hb HB0
  go_wp2_with fail
  (with_reducible refine (HGr.out _ HB1.out).mono ?_)
  rintro e W1' ⟨hg, rfl⟩
  rcases hg with rfl | rfl
  rotate_left
  · go_wp2
    go_ret
    exact ⟨rfl, HB1.out⟩
  clear HGr
  obtain ⟨R, hR⟩ : ∃ R, R = l.map (·.r) := ⟨_, rfl⟩
  have hRL : R.length = L := by rw [hR, HL.out]; simp
  have HR := Lib.hid hR
  have HBh : Hid (∀ (V : World) (b : Nat) (mo : Option Nat) (N : Nat) (M : List Ent) (k : Nat), wB V → ShAt V b mo N M → k ≤ L → Calls Try.prog 19 #[.pointer (some ⟨b, 0, none⟩), .slice A L cap, .int .i64 (k : Int)] V fun e w' => wB w' ∧ Below V.heap.size V w' ∧ ((bhE M (R.take k) = 0 ∧ ∃ b' mo' N', e = .returned (.tuple #[.pointer (some ⟨b', 0, none⟩), .int .i64 0]) ∧ ShAt w' b' mo' N' (bhM M (R.take k))) ∨ (bhE M (R.take k) ≠ 0 ∧ e = .returned (.tuple #[.pointer none, .int .i64 (bhE M (R.take k) : Nat)])))) := by
    refine Lib.hid (fun V b mo N M k hV hs hk => ?_)
    have hb := behind_any hs (HRs.out V hV) cap (by rw [← HL.out]; exact hLc) (by rw [← HL.out]; exact hLm) (k : Int)
    rw [← hR, ← HL.out, show min ((k : Nat) : Int).toNat L = k by omega] at hb
    exact hb.mono (fun e w' ⟨h1, h2⟩ => ⟨HD.out _ _ hV h1, h1, h2⟩)
  have HBr : Hid (∀ (V : World) (b : Nat) (mo : Option Nat) (N : Nat) (M : List Ent) (S2 : Option Addr) (k2 : Nat), wB V → ShAt V b mo N M → (S2 = A.map (·.add (n * 3)) ∨ L = n) → L - n ≤ k2 → Calls Try.prog 19 #[.pointer (some ⟨b, 0, none⟩), .slice S2 (L - n) k2, .int .i64 (L : Int)] V fun e w' => wB w' ∧ Below V.heap.size V w' ∧ ((bhE M (R.drop n) = 0 ∧ ∃ b' mo' N', e = .returned (.tuple #[.pointer (some ⟨b', 0, none⟩), .int .i64 0]) ∧ ShAt w' b' mo' N' (bhM M (R.drop n))) ∨ (bhE M (R.drop n) ≠ 0 ∧ e = .returned (.tuple #[.pointer none, .int .i64 (bhE M (R.drop n) : Nat)])))) := by
    refine Lib.hid (fun V b mo N M S2 k2 hV hs h2 hk => ?_)
    have hd := (HRs.out V hV).rest (by rw [← HL.out]; exact hn) (by rw [← HL.out]; exact h2)
    have hdl : (l.drop n).length = L - n := by rw [List.length_drop, HL.out]
    have hb := behind_any hs hd k2 (by omega) (by omega) (L : Int)
    rw [hdl, show min ((L : Nat) : Int).toNat (L - n) = L - n by omega, List.map_drop, ← hR, List.take_of_length_le (by rw [List.length_drop]; omega)] at hb
    exact hb.mono (fun e w' ⟨h1, h2⟩ => ⟨HD.out _ _ hV h1, h1, h2⟩)
  have HT : Hid (bhE [] R = 0 → bhE [] (R.take n) = 0 ∧ bhE (bhM [] (R.take n)) (R.drop n) = 0 ∧ bhM (bhM [] (R.take n)) (R.drop n) = bhM [] R) := Lib.hid (fun h0 => by
    have h1 := bhE_append [] (R.take n) (R.drop n)
    have h2 := bhM_append [] (R.take n) (R.drop n)
    rw [List.take_append_drop] at h1 h2
    rw [h0] at h1
    by_cases h3 : bhE [] (R.take n) = 0
    · rw [if_pos h3] at h1; exact ⟨h3, h1.symm, h2.symm⟩
    · rw [if_neg h3] at h1; exact absurd h1.symm h3)
  have HRb : Hid (∀ q ∈ R, ∀ c ∈ q.d, c < 256) := by
    refine Lib.hid (fun q hq => ?_)
    rw [hR] at hq
    obtain ⟨x, hx, rfl⟩ := List.mem_map.1 hq
    obtain ⟨j, hj, rfl⟩ := List.mem_iff_getElem.1 hx
    obtain ⟨a, _, _, h2⟩ := HRs.out _ HB1.out j hj
    have := h2.lt
    rwa [show l.getD j default = l[j] by simp [List.getD, hj]] at this
  have hRt : R.take L = R := List.take_of_length_le (by omega)
  have HRL := Lib.hid hRL
  clear hR hRL
  have hal := (Below.refl W1.heap.size W1).alloc (Nat.le_refl _) (.cells #[.map none] 27)
  have HB2 := Lib.hid (HD.out _ _ HB1.out hal)
  have HC1 := HBh.out _ _ _ _ _ L HB2.out (sh_new W1) (Nat.le_refl _)
  rw [hRt] at HC1
  have HC1' := Lib.hid HC1
  clear HC1 hRt hal
  go_wp2_with fail
  clear hN
  (with_reducible refine HC1'.out.mono ?_)
  rintro e W2 ⟨hb, _, hq⟩
  have HB3 := Lib.hid hb
  clear hb HC1' HB2
  have hal := (Below.refl W2.heap.size W2).alloc (Nat.le_refl _) (.cells #[.map none] 27)
  have HB4 := Lib.hid (HD.out _ _ HB3.out hal)
  have HC2 := Lib.hid (HBh.out _ _ _ _ _ n HB4.out (sh_new W2) hn)
  have HAl := Lib.hid hal
  clear hal HBh
  rcases hq with ⟨hE, ba, moa, Na, rfl, hsa⟩ | ⟨hE, rfl⟩
  rotate_left
  · generalize bhE [] R = E at *
    have d1 : ((E : Int) != 0) = true := by simp; omega
    have d2 : (E != 0) = true := by simp; omega
    clear hE
    have HC3 : Hid (Calls Try.prog 19 #[.pointer (some ⟨W2.heap.size, 0, none⟩), .slice A L cap, .int .i64 (n : Int)] (W2.alloc (.cells #[.map none] 27)) fun e w' => wB w' ∧ ∃ u z, e = .returned (.tuple #[.pointer u, .int .i64 z])) := Lib.hid (HC2.out.mono (fun e w' ⟨h1, _, h2⟩ => ⟨h1, by rcases h2 with ⟨_, b', mo', N', h3, _⟩ | ⟨_, h3⟩; exact ⟨_, _, h3⟩; exact ⟨_, _, h3⟩⟩))
    clear HC2
    go_wp2_with fail
    (with_reducible refine HC3.out.mono ?_)
    rintro e W3 ⟨hb, u, z, rfl⟩
    have HB5 := Lib.hid hb
    clear hb HC3
    go_wp2
    go_ret
    exact ⟨rfl, HB5.out⟩
  obtain ⟨hE1, hE2, hE3⟩ := HT.out hE
  have HSa := Lib.hid (hsa.below HAl.out)
  have HE1 := Lib.hid hE1
  clear hE hsa HT HAl
  have HC3 : Hid (Calls Try.prog 19 #[.pointer (some ⟨W2.heap.size, 0, none⟩), .slice A L cap, .int .i64 (n : Int)] (W2.alloc (.cells #[.map none] 27)) fun e w' => wB w' ∧ ShAt w' ba moa Na (bhM [] R) ∧ ∃ b' mo' N', e = .returned (.tuple #[.pointer (some ⟨b', 0, none⟩), .int .i64 0]) ∧ ShAt w' b' mo' N' (bhM [] (R.take n))) := Lib.hid (HC2.out.mono (fun e w' ⟨h1, h0, h2⟩ => ⟨h1, HSa.out.below h0, by rcases h2 with ⟨_, h3⟩ | ⟨h3, _⟩; exact h3; exact absurd hE1 h3⟩))
  clear HC2 hE1 HSa
  go_wp2_with fail
  (with_reducible refine HC3.out.mono ?_)
  rintro e W3 ⟨hb, hsa, bs, mos, Ns, rfl, hss⟩
  have HB5 := Lib.hid hb
  have HSa := Lib.hid hsa
  have HSs := Lib.hid hss
  clear hb HC3 hsa hss
  obtain ⟨S2, k2, hS2, hk2, hsl⟩ := sl_recs A L cap n hn hLc
  have HC4 : Hid (Calls Try.prog 19 #[.pointer (some ⟨bs, 0, none⟩), .slice S2 (L - n) k2, .int .i64 (L : Int)] W3 fun e w' => wB w' ∧ ShAt w' ba moa Na (bhM [] R) ∧ ShAt w' bs mos Ns (bhM [] (R.take n)) ∧ ∃ b' mo' N', e = .returned (.tuple #[.pointer (some ⟨b', 0, none⟩), .int .i64 0]) ∧ ShAt w' b' mo' N' (bhM [] R)) := by
    refine Lib.hid ((HBr.out _ _ _ _ _ S2 k2 HB5.out HSs.out hS2 hk2).mono ?_)
    rintro e w' ⟨h1, h0, h2⟩
    rw [hE2, hE3] at h2
    refine ⟨h1, HSa.out.below h0, HSs.out.below h0, ?_⟩
    rcases h2 with ⟨_, h3⟩ | ⟨h3, _⟩
    · exact h3
    · exact absurd rfl h3
  clear hS2 hk2 hE2 hE3 HBr HSa HSs
  go_wp2_with fail
  (with_reducible refine HC4.out.mono ?_)
  rintro e W4 ⟨hb, hsa, hss, bt, mot, Nt, rfl, hst⟩
  have HB6 := Lib.hid hb
  have HSs := Lib.hid hss
  have HSm := same_any (ShP.of hst) (ShP.of hsa)
  rw [decide_eq_true rfl] at HSm
  have HSm' := Lib.hid HSm
  clear hb HC4 hsa hss hst HSm hsl
  go_wp2_with fail
  (with_reducible refine HSm'.out.mono ?_)
  rintro e W5 ⟨rfl, hb⟩
  have HB7 := Lib.hid (HD.out _ _ HB6.out hb)
  have HSs5 := Lib.hid (HSs.out.below hb)
  clear hb HSm' HSs
  have HLast : Hid (∀ k, k < n → (∀ m, k < m → m < n → ¬ smR l m k) → gB (bhM [] (R.take n)) (l.getD k default).r.k (l.getD k default).r.n = !(l.getD k default).r.d.isEmpty ∧ gD (bhM [] (R.take n)) (l.getD k default).r.k (l.getD k default).r.n = (l.getD k default).r.d) := by
    refine Lib.hid (fun k hk hs => ?_)
    have h := last_at (k := k) HRb.out HE1.out hk (by rw [HRL.out]; exact hn) (fun m h1 h2 => by
      rw [HR.out, map_getD, map_getD]
      exact hs m h1 h2)
    have e : R.getD k ⟨0, 0, []⟩ = (l.getD k default).r := by rw [HR.out, map_getD]
    rw [e] at h
    exact h
  generalize bhM [] (R.take n) = M at *
  clear HE1 HRL HRb HR HB3 HB4 HB5 HB6 HB1
  go_wp2_with fail
  go_loopw [13] (fun i wr => ∃ j : Nat, j ≤ n ∧ i = .int .i64 (j : Int) ∧ wB wr ∧ ShAt wr bs mos Ns M) (fun i _ => n - (intOf i).toNat)
  case atStart => exact ⟨0, by omega, rfl, HB7.out, HSs5.out⟩
  case round =>
    obtain ⟨j, hj, rfl, h1, h2⟩ := hrel
    rename World => V
    have HB := Lib.hid h1
    have HS := Lib.hid h2
    clear h1 h2
    by_cases hlt : j < n
    · obtain ⟨a, hA, ⟨b0, b1, b2⟩, _⟩ := HRs.out _ HB.out j (by rw [← HL.out]; omega)
      subst hA
      go_wp2_with fail
      have j0 : (0 : Int) ≤ (j : Int) := by omega
      have j1 : (j : Int) < (L : Int) := by omega
      go_loopw [14, 15] (fun lv kv wr => ∃ lt k : Nat, lv = .int .i64 (lt : Int) ∧ kv = .int .i64 (k : Int) ∧ j ≤ lt ∧ lt < k ∧ k ≤ n ∧ smR l lt j ∧ (∀ m, lt < m → m < k → ¬ smR l m j) ∧ wB wr ∧ ShAt wr bs mos Ns M) (fun _ kv _ => n - (intOf kv).toNat)
      case atStart => exact ⟨j, j + 1, rfl, by go_num, by omega, by omega, by omega, ⟨rfl, rfl⟩, fun m h1 h2 => by omega, HB.out, HS.out⟩
      case round =>
        obtain ⟨lt, k, rfl, rfl, a1, a2, a3, a4, a5, h1, h2⟩ := hrel
        clear b0 b1 b2 HB HS
        rename World => V2
        have HB := Lib.hid h1
        have HS := Lib.hid h2
        clear h1 h2
        obtain ⟨a', e', ⟨b0, b1, b2⟩, _⟩ := HRs.out _ HB.out j (by rw [← HL.out]; omega)
        injection e' with e'
        subst e'
        by_cases hk : k < n
        · obtain ⟨a', e', ⟨c0, c1, c2⟩, _⟩ := HRs.out _ HB.out k (by rw [← HL.out]; omega)
          injection e' with e'
          subst e'
          have HSm : Hid ((l.getD k default).r.k = (l.getD j default).r.k → (l.getD k default).r.n = (l.getD j default).r.n → smR l k j) := Lib.hid (fun h1 h2 => ⟨h1, h2⟩)
          have HSn : Hid (smR l k j → (l.getD k default).r.k = (l.getD j default).r.k ∧ (l.getD k default).r.n = (l.getD j default).r.n) := Lib.hid (fun h => h)
          have k0 : (0 : Int) ≤ (k : Int) := by omega
          have k1 : (k : Int) < (L : Int) := by omega
          clear HLast b2 c2
          generalize (l.getD k default).r.k = kk at *
          generalize (l.getD j default).r.k = kj at *
          generalize (l.getD k default).r.n = nk at *
          generalize (l.getD j default).r.n = nj at *
          by_cases e1 : kk = kj
          · subst e1
            by_cases e2 : nk = nj
            · subst e2
              have HSs := Lib.hid (HSm.out rfl rfl)
              clear HSm HSn
              go_wp2_with fail
              go_quiet (fail)
              go_wp2
              go_roundw
              case rel => exact ⟨k, k + 1, rfl, by go_num, by omega, by omega, by omega, HSs.out, fun m h1 h2 => by omega, HD.out _ _ HB.out (belowN (Below.refl _ _) nq), HS.out.below (belowN (Below.refl _ _) nq)⟩
              case measure => simp [intOf]; omega
            · have hno : ¬ smR l k j := fun h => e2 (HSn.out h).2
              have HNo : Hid (∀ m, lt < m → m < k + 1 → ¬ smR l m j) := Lib.hid (fun m h1 h2 => by
                by_cases e : m = k
                · rw [e]; exact hno
                · exact a5 m h1 (by omega))
              have d1 : (nk == nj) = false := by simpa using e2
              clear HSm HSn hno
              go_wp2_with fail
              go_quiet (fail)
              go_wp2
              go_roundw
              case rel => exact ⟨lt, k + 1, rfl, by go_num, by omega, by omega, by omega, a4, HNo.out, HD.out _ _ HB.out (belowN (Below.refl _ _) nq), HS.out.below (belowN (Below.refl _ _) nq)⟩
              case measure => simp [intOf]; omega
          · have hno : ¬ smR l k j := fun h => e1 (HSn.out h).1
            have HNo : Hid (∀ m, lt < m → m < k + 1 → ¬ smR l m j) := Lib.hid (fun m h1 h2 => by
              by_cases e : m = k
              · rw [e]; exact hno
              · exact a5 m h1 (by omega))
            have d1 : (kk == kj) = false := by simpa using e1
            clear HSm HSn hno
            go_wp2_with fail
            go_quiet (fail)
            go_wp2
            go_roundw
            case rel => exact ⟨lt, k + 1, rfl, by go_num, by omega, by omega, by omega, a4, HNo.out, HD.out _ _ HB.out (belowN (Below.refl _ _) nq), HS.out.below (belowN (Below.refl _ _) nq)⟩
            case measure => simp [intOf]; omega
        · obtain rfl : k = n := by omega
          obtain ⟨g1, g2⟩ := HLast.out lt a2 (fun m h1 h2 h3 => a5 m h1 h2 ⟨h3.1.trans a4.1, h3.2.trans a4.2⟩)
          rw [a4.1, a4.2] at g1 g2
          have hg := get_any (HS.out.below ((Below.refl _ V2).drew)) (l.getD j default).r.k (l.getD j default).r.n
          unfold GetQ at hg
          rw [g1, g2] at hg
          obtain ⟨bb, p1, p2, p3⟩ : ∃ bb, (!(l.getD lt default).r.d.isEmpty) = bb ∧ decide ((0 : Int) < (((l.getD lt default).r.d.length : Nat) : Int)) = bb ∧ decide (0 < (l.getD lt default).r.d.length) = bb := by
            cases (l.getD lt default).r.d with
            | nil => exact ⟨false, rfl, rfl, rfl⟩
            | cons c t => exact ⟨true, rfl, by first | (simp; done) | (simp; omega), by simp⟩
          rw [p1] at hg
          obtain ⟨d, hd⟩ : ∃ d, d = (l.getD lt default).r.d := ⟨_, rfl⟩
          rw [← hd] at hg p2 p3
          have HG : Hid (Calls Try.prog 17 #[.pointer (some ⟨bs, 0, none⟩), .int .i64 (l.getD j default).r.k, .int .i64 (l.getD j default).r.n] V2.drew fun e w' => ∃ v, e = .returned (.tuple #[v, .bool bb]) ∧ wB w' ∧ ShAt w' bs mos Ns M ∧ (∀ q, (convert 30 9 v).run Try.prog (w'.drewN q) = .ok (.string (strN d)) (w'.drewN q)) ∧ (∀ q, (convert 30 9 (.slice (l.getD lt default).A d.length (l.getD lt default).cap)).run Try.prog (w'.drewN q) = .ok (.string (strN d)) (w'.drewN q)) ∧
              (w'.cell? (a.add (j * 3)) = some (.int .i64 (l.getD j default).r.k) ∧ w'.cell? ⟨(a.add (j * 3)).block, (a.add (j * 3)).off + 1, none⟩ = some (.int .i64 (l.getD j default).r.n)) ∧ w'.cell? ⟨(a.add (lt * 3)).block, (a.add (lt * 3)).off + 2, none⟩ = some (.slice (l.getD lt default).A d.length (l.getD lt default).cap)) := by
            refine Lib.hid (hg.mono ?_)
            rintro e w' ⟨v, rfl, hv, hb⟩
            have hw := HD.out _ _ (HD.out _ _ HB.out ((Below.refl _ V2).drew)) hb
            obtain ⟨a', e', ⟨d0, d1, _⟩, _⟩ := HRs.out _ hw j (by rw [← HL.out]; omega)
            injection e' with e'
            subst e'
            obtain ⟨a', e', ⟨_, _, d2⟩, hrk⟩ := HRs.out _ hw lt (by rw [← HL.out]; omega)
            injection e' with e'
            subst e'
            refine ⟨v, rfl, hw, (HS.out.below ((Below.refl _ V2).drew)).below hb, fun q => ?_, fun q => ?_, ⟨d0, d1⟩, by rw [hd]; exact d2⟩
            · exact conv8 (R8.below hv (belowN (Below.refl _ w') q)) (by rw [hd]; exact hrk.lt)
            · rw [hd]
              exact conv_bytes _ (hrk.dat.below (belowN (Below.refl _ w') q)) hrk.lt
          have hlt0 : (0 : Int) ≤ (lt : Int) := by omega
          have hlt1 : (lt : Int) < (L : Int) := by omega
          have hltn : lt < k := by omega
          clear hg g1 g2 p1 b2 HLast a5 a4 hk a1 a2 hd
          generalize (l.getD lt default).A = Al at *
          generalize (l.getD lt default).cap = cl at *
          generalize (l.getD j default).r.k = kj at *
          generalize (l.getD j default).r.n = nj at *
          generalize strN d = sN at *
          generalize d.length = Ld at *
          go_upto_region 21 with fail
          go_region_held3 (fun U => U.cell? (a.add (j * 3)) = some (.int .i64 kj) ∧ U.cell? ⟨(a.add (j * 3)).block, (a.add (j * 3)).off + 1, none⟩ = some (.int .i64 nj)) (first | exact ⟨b0, b1⟩ | exact hs9) ((go_at_call 17; (with_reducible refine HG.out.mono ?_); rintro e W6 ⟨v, rfl, hw6, hsh6, hc1, hc2, hs9, hs10⟩; have HB6 := Lib.hid hw6; have HS6 := Lib.hid hsh6; clear hw6 hsh6))
          have hc10 := hc1 0
          have hc20 := hc2 0
          have hkn : j + 1 ≤ k := by omega
          clear HG
          go_wp2_with fail
          go_quiet (fail)
          go_wp2
          go_roundw
          case rel => exact ⟨j + 1, hkn, by go_num, HD.out _ _ HB6.out (belowN (Below.refl _ _) nq), HS6.out.below (belowN (Below.refl _ _) nq)⟩
          case measure => simp [intOf]; omega
    · obtain rfl : j = n := by omega
      have HB' := HB
      go_wp2
      go_ret
      exact ⟨rfl, HB.out⟩
end Go.Proofs.Ytgciibcngmimkaa
