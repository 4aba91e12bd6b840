/-
  The walk of the law GridBack.
-/
import Derived.Test.YtlkojoinbogkmaaDoorGBm
namespace Go.Proofs.YtlkojoinbogkmaaDoor
set_option maxRecDepth 100000
set_option linter.unusedSimpArgs false
open Go.RowKit

theorem nextZ_nat {R C k : Nat} {ms : List UInt8} (hk : k < ms.length) : nextZ R C ms (k : Int) = outs R C ms k := by unfold nextZ; rw [if_pos (by omega)]; rfl
theorem backZ_nat {R C k : Nat} {ms : List UInt8} (hk : k < ms.length) : backZ R C ms (k : Int) = ins R C ms k := by unfold backZ; rw [if_pos (by omega)]; rfl

/-- Is x among the first j? -/
def anyK (l : List Nat) (x j : Nat) : Bool := (List.range j).any (fun i => l.getD i 0 == x)
theorem anyK_step (l : List Nat) (x j : Nat) : anyK l x (j + 1) = (anyK l x j || (l.getD j 0 == x)) := by unfold anyK; rw [List.range_succ, List.any_append]; simp
theorem anyK_all {l : List Nat} {x : Nat} (h : x ∈ l) : anyK l x l.length = true := by
  obtain ⟨j, hj, rfl⟩ := List.getElem_of_mem h
  unfold anyK
  rw [List.any_eq_true]
  exact ⟨j, List.mem_range.2 hj, by simp [List.getD, hj]⟩

/-- What the inner walk asks of the edge from cell k by way of place q of its list. -/
structure EdgeFacts (R C : Nat) (ms : List UInt8) (k : Nat) (l : List Nat) (q : Nat) : Prop where
  far : farZ C ms.length k (l.getD q 0 : Nat) = 1
  fa : freeB ms k = true
  fb : freeB ms (l.getD q 0 : Nat) = true
  edge : (nextZ R C ms k).any (fun u => (u : Int) == ((l.getD q 0 : Nat) : Int)) = true
  rise : ∀ p, q = p + 1 → l.getD p 0 < l.getD q 0
  bk : backZ R C ms (l.getD q 0 : Nat) = ins R C ms (l.getD q 0)
  mem : k ∈ ins R C ms (l.getD q 0)
  home : (((kindB ms k).toNat : Int) == 46) = true → (((kindB ms (l.getD q 0 : Nat)).toNat : Int) == 46) = true → (nextZ R C ms (l.getD q 0 : Nat)).any (fun u => (u : Int) == (k : Int)) = true
  lt : l.getD q 0 < ms.length

theorem edge_facts {R C : Nat} {ms : List UInt8} (hC : 1 ≤ C) (hN : R * C = ms.length) {k q : Nat} (hk : k < ms.length) (hq : q < (outs R C ms k).length) : EdgeFacts R C ms k (outs R C ms k) q := by
  have hg : (outs R C ms k).getD q 0 = (outs R C ms k)[q] := by simp [List.getD, hq]
  have hm : (outs R C ms k).getD q 0 ∈ outs R C ms k := by rw [hg]; exact List.getElem_mem hq
  obtain ⟨h1, h2, h3, h4, h5, h6⟩ := out_facts hC hN hk hm
  refine ⟨h2, h3, h4, ?_, ?_, backZ_nat h1, h5, ?_, h1⟩
  · rw [nextZ_nat hk, List.any_eq_true]
    exact ⟨_, hm, by simp⟩
  · rintro p rfl
    have hp : (outs R C ms k).getD p 0 = (outs R C ms k)[p] := by simp [List.getD, (by omega : p < (outs R C ms k).length)]
    rw [hg, hp]
    exact (List.pairwise_iff_getElem.1 (outs_rise R C ms k hC)) p (p + 1) (by omega) hq (by omega)
  · intro k1 k2
    rw [nextZ_nat h1, List.any_eq_true]
    exact ⟨k, h6 k1 k2, by simp⟩

set_option maxHeartbeats 400000 in
theorem back_long (s : ByteArray) (w : World) (hw : Ways w) (h : 1200 < s.size) :
    Calls Tryd.prog 4 #[.string s] w fun e w' => e = .returned (.bool true) ∧ Below w.heap.size w w' := by
  have HA : Hid (Calls Tryd.prog 20 #[] w fun e w' => e = .returned (.bool true) ∧ Below w.heap.size w w') := alive_any w hw
  clear hw
  go_enter Tryd.func4, Tryd.ntmps4
  go_wp2_with (go_at_call 20; (with_reducible refine HA.out.mono ?_); rintro e w1 ⟨rfl, hb⟩)
  go_ret
  exact ⟨rfl, hb⟩

set_option maxHeartbeats 1000000 in
theorem back_bad (s : ByteArray) (w : World) (hw : Ways w) (h : s.size ≤ 1200) {l c : Nat} (hv : Pure.verdict s.data.toList = .bad l c) :
    Calls Tryd.prog 4 #[.string s] w fun e w' => e = .returned (.bool true) ∧ Below w.heap.size w w' := by
  have HA : Hid (Calls Tryd.prog 20 #[] w fun e w' => e = .returned (.bool true) ∧ Below w.heap.size w w') := alive_any w hw
  have HP : Hid (∀ w, Calls Tryd.prog 7 #[.string s] w fun e w' => e = .returned (.tuple #[.pointer none, .int .i64 (l : Int), .int .i64 (c : Int), .int .i64 10]) ∧ Below w.heap.size w w') := by
    intro w
    refine (parse_any s w (by omega)).mono ?_
    rintro e w' ⟨h1, h2⟩
    rw [hv] at h2
    exact ⟨h2, h1⟩
  clear hv hw
  go_enter Tryd.func4, Tryd.ntmps4
  go_wp2_with (first
    | (go_at_call 20; (with_reducible refine HA.out.mono ?_); rintro e w1 ⟨rfl, hb⟩)
    | (go_at_call 7; (with_reducible refine (HP.out _).mono ?_); rintro e w2 ⟨rfl, hb2⟩))
  go_ret
  exact ⟨rfl, hb.trans (hb2.mono hb.size)⟩

set_option maxHeartbeats 4000000 in
theorem back_good (s : ByteArray) (w : World) (hw : Ways w) (h : s.size ≤ 1200) {L : List (List UInt8)} (hv : Pure.verdict s.data.toList = .good L) :
    Calls Tryd.prog 4 #[.string s] w fun e w' => e = .returned (.bool true) ∧ Below w.heap.size w w' := by
  have hgt := Pure.good_of hv
  have HA : Hid (Calls Tryd.prog 20 #[] w fun e w' => e = .returned (.bool true) ∧ Below w.heap.size w w') := alive_any w hw
  have HP : Hid (∀ w, Calls Tryd.prog 7 #[.string s] w fun e w' => ∃ b g cap, e = .returned (.tuple #[.pointer (some ⟨b, 0, none⟩), .int .i64 0, .int .i64 0, .int .i64 0]) ∧ (MapAt w' b g cap L ∧ Below w.heap.size w w' ∧ w.heap.size ≤ b)) := by
    intro w
    refine (parse_any s w (by omega)).mono ?_
    rintro e w' ⟨h1, h2⟩
    rw [hv] at h2
    obtain ⟨g, cap, h3, h4⟩ := h2
    exact ⟨_, g, cap, h3, h4, h1, Nat.le_refl _⟩
  have hst : (⟨(Pure.text L).toArray⟩ : ByteArray) = s := by rw [hgt.2]
  have HT : Hid (∀ w b g cap, MapAt w b g cap L → Calls Tryd.prog 21 #[.pointer (some ⟨b, 0, none⟩)] w fun e w' => e = .returned (.string s) ∧ Below w.heap.size w w') := by
    intro w b g cap hm
    have := text_any hm hgt.1
    rw [hst] at this
    exact this
  have HW : Hid (Ways w) := hw
  have HG : Hid (Pure.Good L) := hgt.1
  clear hv hw hgt hst
  go_enter Tryd.func4, Tryd.ntmps4
  go_wp2_with (first
    | (go_at_call 20; (with_reducible refine HA.out.mono ?_); rintro e w1 ⟨rfl, hb⟩; have H1 : Hid (Below w.heap.size w w1) := hb; clear hb)
    | (go_at_call 21; (with_reducible refine (HT.out _ _ _ _ H2.out.1).mono ?_); rintro e w3 ⟨rfl, hb⟩; have H3 : Hid (Below w2.heap.size w2 w3) := hb; clear hb)
    | (go_at_call 21; (with_reducible refine (HT.out _ _ _ _ H4.out.1).mono ?_); rintro e w5 ⟨rfl, hb⟩; have H5 : Hid (Below w4.heap.size w4 w5) := hb; clear hb)
    | (go_at_call 7; (with_reducible refine (HP.out w1).mono ?_); rintro e w2 ⟨bm, gm, cm, rfl, hm⟩; have H2 : Hid (MapAt w2 bm gm cm L ∧ Below w1.heap.size w1 w2 ∧ w1.heap.size ≤ bm) := hm; clear hm)
    | (go_at_call 7; (with_reducible refine (HP.out w3).mono ?_); rintro e w4 ⟨b2, g2, c2, rfl, hm⟩; have H4 : Hid (MapAt w4 b2 g2 c2 L ∧ Below w3.heap.size w3 w4 ∧ w3.heap.size ≤ b2) := hm; clear hm))
  obtain ⟨R, hR⟩ : ∃ R, L.length = R := ⟨_, rfl⟩
  obtain ⟨C, hC⟩ : ∃ C, Pure.wid L = C := ⟨_, rfl⟩
  obtain ⟨ms, hms⟩ : ∃ ms, L.flatten = ms := ⟨_, rfl⟩
  have HM : Hid (M1 w bm gm cm R C ms w5) := by
    obtain ⟨m1, m2, m3⟩ := H2.out
    have h1 := H1.out
    have hz := h1.size
    have := m1_start (w := w) HW.out HG.out m1 (h1.trans (m2.mono h1.size)) (by omega)
    rw [hR, hC, hms] at this
    exact ((this.below H3.out).below H4.out.2.1).below H5.out
  have hpos : Hid (0 < ms.length) := by
    show 0 < _
    rw [← hms, HG.out.size]
    exact Nat.mul_pos (List.length_pos_iff.2 HG.out.ne) HG.out.lo
  clear HA HP HT HW HG H1 H2 H3 H4 H5 hR hC hms
  have hC1 := HM.out.em.hC
  have hN := HM.out.em.hN
  have hlen := HM.out.em.len
  obtain ⟨N, hNe⟩ : ∃ N, ms.length = N := ⟨_, rfl⟩
  have HN : Hid (ms.length = N) := hNe
  rw [hNe] at hlen
  have HC : Hid (1 ≤ C ∧ R * C = ms.length) := ⟨hC1, hN⟩
  have HCl : Hid (∀ W, M1 w bm gm cm R C ms W → Calls Tryd.prog 22 #[.pointer (some ⟨bm, 0, none⟩)] W fun e w' => e = .returned (.int .i64 (N : Int)) ∧ W = w') := fun W hW => hNe ▸ g_cells hW
  have HEd : Hid (∀ W, M1 w bm gm cm R C ms W → Calls Tryd.prog 19 #[.pointer (some ⟨bm, 0, none⟩)] W fun e w' => e = .returned (.int .i64 (sumN (fun u => (ins R C ms u).length) N : Int)) ∧ M1 w bm gm cm R C ms w') := by
    intro W hW
    have := m1_edges hW
    rw [← ins_sum R C ms hC1 hN, hNe] at this
    exact this
  clear hC1 hN hNe
  go_loopw [12, 13] (fun n a wr => ∃ k : Nat, k ≤ N ∧ a = .int .i64 k ∧ n = .int .i64 (sumN (fun u => (ins R C ms u).length) k : Int) ∧ M1 w bm gm cm R C ms wr) (fun _ a _ => N - (intOf a).toNat)
  case atStart => exact ⟨0, Nat.zero_le _, rfl, rfl, HM.out⟩
  case round =>
    obtain ⟨k, hk, rfl, rfl, hm⟩ := hrel
    have H0 : Hid (M1 w bm gm cm R C ms wr) := hm
    clear hm HM
    by_cases hlt : k < N
    · have hkN : k < ms.length := by rw [HN.out]; exact hlt
      have HNx : Hid (∀ W, M1 w bm gm cm R C ms W → Calls Tryd.prog 10 #[.pointer (some ⟨bm, 0, none⟩), .int .i64 (k : Int)] W fun e w' => ∃ a c, e = .returned (.slice a (outs R C ms k).length c) ∧ (M1 w bm gm cm R C ms w' ∧ LstN bm w' (.slice a (outs R C ms k).length c) (outs R C ms k))) := by
        intro W hW
        have := g_next (k : Int) hW
        rw [nextZ_nat hkN] at this
        exact this.mono fun e w' ⟨a, c, h1, h2, _, h4⟩ => ⟨a, c, h1, h2, h4⟩
      have HBk : Hid (∀ W v l, M1 w bm gm cm R C ms W → LstN bm W v l → Calls Tryd.prog 13 #[.pointer (some ⟨bm, 0, none⟩), .int .i64 (k : Int)] W fun e w' => ∃ a c, e = .returned (.slice a (ins R C ms k).length c) ∧ (M1 w bm gm cm R C ms w' ∧ LstN bm w' v l)) := by
        intro W v l hW hl
        have := g_back (k : Int) hW
        rw [backZ_nat hkN] at this
        exact this.mono fun e w' ⟨a, c, h1, h2, h3, _⟩ => ⟨a, c, h1, h2, hl.grown h3⟩
      have HEF : Hid (∀ q, q < (outs R C ms k).length → EdgeFacts R C ms k (outs R C ms k) q) := fun q hq => edge_facts HC.out.1 HC.out.2 hkN hq
      have hs1 : sumN (fun u => (ins R C ms u).length) (k + 1) = sumN (fun u => (ins R C ms u).length) k + (ins R C ms k).length := rfl
      have hs2 := sumN_le R C ms (k + 1)
      have hs3 : (k + 1) * ms.length ≤ 1024 * 1024 := Nat.mul_le_mul (by omega) (by rw [HN.out]; omega)
      have hol := outs_len R C ms k
      have HREL : Hid (∀ W, M1 w bm gm cm R C ms W → ∃ k' : Nat, k' ≤ N ∧ Value.int .i64 ((k + 1 : Nat) : Int) = .int .i64 k' ∧ Value.int .i64 (sumN (fun u => (ins R C ms u).length) (k + 1) : Int) = .int .i64 (sumN (fun u => (ins R C ms u).length) k' : Int) ∧ M1 w bm gm cm R C ms W) := fun W hW => ⟨k + 1, by omega, rfl, rfl, hW⟩
      generalize sumN (fun u => (ins R C ms u).length) (k + 1) = t1 at *
      generalize sumN (fun u => (ins R C ms u).length) k = t0 at *
      generalize outs R C ms k = l at *
      generalize (ins R C ms k).length = lb at *
      obtain ⟨ln, hln⟩ : ∃ ln, l.length = ln := ⟨_, rfl⟩
      have HLN : Hid (l.length = ln) := hln
      rw [hln] at hol HNx HEF
      have hs4 : t1 ≤ 1048576 := Nat.le_trans hs2 hs3
      clear hln hs2 hs3
      have hwr : IntKind.i64.wrap ((t0 : Int) + (lb : Int)) = (t1 : Int) := by
        rw [IntWalk.i64_in _ (by omega)]; omega
      have hwk : IntKind.i64.wrap ((k : Int) + 1) = ((k + 1 : Nat) : Int) := by
        rw [IntWalk.i64_in _ (by omega)]; omega
      go_wp2_with (first
        | (go_at_call 22; (with_reducible refine (HCl.out _ H0.out).mono ?_); rintro e w' ⟨rfl, rfl⟩)
        | (go_at_call 10; (with_reducible refine (HNx.out _ H0.out).mono ?_); rintro e w6 ⟨al, cl, rfl, hm⟩; have H6 : Hid (M1 w bm gm cm R C ms w6 ∧ LstN bm w6 (.slice al ln cl) l) := hm; clear hm)
        | (go_at_call 13; (with_reducible refine (HBk.out _ _ _ H6.out.1 H6.out.2).mono ?_); rintro e w7 ⟨ab, cb, rfl, hm⟩; have H7 : Hid (M1 w bm gm cm R C ms w7 ∧ LstN bm w7 (.slice al ln cl) l) := hm; clear hm))
      clear HNx HBk H6 H0
      go_loopw [15] (fun i wr => ∃ q : Nat, q ≤ ln ∧ i = .int .i64 q ∧ (M1 w bm gm cm R C ms wr ∧ LstN bm wr (.slice al ln cl) l)) (fun i _ => ln - (intOf i).toNat)
      case atStart => exact ⟨0, Nat.zero_le _, rfl, H7.out⟩
      case round =>
        obtain ⟨q, hq, rfl, hm⟩ := hrel
        have H0 : Hid (M1 w bm gm cm R C ms wr ∧ LstN bm wr (.slice al ln cl) l) := hm
        clear hm H7
        by_cases hql : q < ln
        · obtain ⟨hfar, hfa, hfb, hedge, hrise, hbk, hmem, hhome, hbN⟩ := HEF q hql
          obtain ⟨x, hx⟩ : ∃ x, l.getD q 0 = x := ⟨_, rfl⟩
          rw [hx] at hfar hfb hedge hrise hbk hmem hhome hbN
          have HX : Hid (l.getD q 0 = x) := hx
          clear hx
          have HFar : Hid (∀ W, (M1 w bm gm cm R C ms W ∧ LstN bm W (.slice al ln cl) l) → Calls Tryd.prog 17 #[.pointer (some ⟨bm, 0, none⟩), .int .i64 (k : Int), .int .i64 (x : Int)] W fun e w' => e = .returned (.int .i64 1) ∧ (M1 w bm gm cm R C ms w' ∧ LstN bm w' (.slice al ln cl) l)) := fun W hW => (g_far _ _ hW.1 hpos.out).mono fun e w' ⟨h1, h2, h3⟩ => ⟨by rw [h1, hfar], h2, hW.2.grown h3⟩
          have HFa : Hid (∀ W, M1 w bm gm cm R C ms W → Calls Tryd.prog 23 #[.pointer (some ⟨bm, 0, none⟩), .int .i64 (k : Int)] W fun e w' => e = .returned (.bool true) ∧ W = w') := fun W hW => hfa ▸ g_free _ hW
          have HFb : Hid (∀ W, M1 w bm gm cm R C ms W → Calls Tryd.prog 23 #[.pointer (some ⟨bm, 0, none⟩), .int .i64 (x : Int)] W fun e w' => e = .returned (.bool true) ∧ W = w') := fun W hW => hfb ▸ g_free _ hW
          have HE : Hid (∀ W, (M1 w bm gm cm R C ms W ∧ LstN bm W (.slice al ln cl) l) → Calls Tryd.prog 15 #[.pointer (some ⟨bm, 0, none⟩), .int .i64 (k : Int), .int .i64 (x : Int)] W fun e w' => e = .returned (.bool true) ∧ (M1 w bm gm cm R C ms w' ∧ LstN bm w' (.slice al ln cl) l)) := fun W hW => (g_edge _ _ hW.1).mono fun e w' ⟨h1, h2, h3⟩ => ⟨by rw [h1, hedge], h2, hW.2.grown h3⟩
          have HB : Hid (∀ W, (M1 w bm gm cm R C ms W ∧ LstN bm W (.slice al ln cl) l) → Calls Tryd.prog 13 #[.pointer (some ⟨bm, 0, none⟩), .int .i64 (x : Int)] W fun e w' => ∃ a c, e = .returned (.slice a (ins R C ms x).length c) ∧ ((M1 w bm gm cm R C ms w' ∧ LstN bm w' (.slice al ln cl) l) ∧ LstN bm w' (.slice a (ins R C ms x).length c) (ins R C ms x))) := by
            intro W hW
            have := g_back (x : Int) hW.1
            rw [hbk] at this
            exact this.mono fun e w' ⟨a, c, h1, h2, h3, h4⟩ => ⟨a, c, h1, ⟨h2, hW.2.grown h3⟩, h4⟩
          have HKa : Hid (∀ W, M1 w bm gm cm R C ms W → Calls Tryd.prog 24 #[.pointer (some ⟨bm, 0, none⟩), .int .i64 (k : Int)] W fun e w' => e = .returned (.int .u8 ((kindB ms k).toNat : Int)) ∧ W = w') := fun W hW => g_kind _ hW
          have HKb : Hid (∀ W, M1 w bm gm cm R C ms W → Calls Tryd.prog 24 #[.pointer (some ⟨bm, 0, none⟩), .int .i64 (x : Int)] W fun e w' => e = .returned (.int .u8 ((kindB ms x).toNat : Int)) ∧ W = w') := fun W hW => g_kind _ hW
          have HHm : Hid (∀ W, (M1 w bm gm cm R C ms W ∧ LstN bm W (.slice al ln cl) l) → (((kindB ms k).toNat : Int) == 46) = true → (((kindB ms x).toNat : Int) == 46) = true → Calls Tryd.prog 15 #[.pointer (some ⟨bm, 0, none⟩), .int .i64 (x : Int), .int .i64 (k : Int)] W fun e w' => e = .returned (.bool true) ∧ (M1 w bm gm cm R C ms w' ∧ LstN bm w' (.slice al ln cl) l)) := fun W hW k1 k2 => (g_edge _ _ hW.1).mono fun e w' ⟨h1, h2, h3⟩ => ⟨by rw [h1, hhome k1 k2], h2, hW.2.grown h3⟩
          have HCell : Hid (∀ W p, p < ln → LstN bm W (.slice al ln cl) l → ∃ g, al = some ⟨g, 0, none⟩ ∧ W.cell? ⟨g, p, none⟩ = some (.int .i64 ((l.getD p 0 : Nat) : Int))) := by
            rintro W p hp ⟨a, c, he, hc⟩
            obtain ⟨g, rfl, _, h3⟩ := hc p (by rw [HLN.out]; exact hp)
            simp only [Value.slice.injEq] at he
            exact ⟨g, he.1, h3⟩
          have hxi : x ≤ 1024 := by rw [HN.out] at hbN; omega
          have hki : k ≤ 1024 := by omega
          clear hfar hfa hfb hedge hbk hhome hbN HEF
          obtain ⟨g, rfl, hcq⟩ := HCell.out _ q hql H0.out.2
          rw [HX.out] at hcq
          have hqi : (q : Int) < (ln : Int) := by omega
          have hq0 : (0 : Int) ≤ (q : Int) := by omega
          have hwq : IntKind.i64.wrap ((q : Int) + 1) = ((q + 1 : Nat) : Int) := by rw [IntWalk.i64_in _ (by omega)]; omega
          have Hrise : Hid (∀ p, q = p + 1 → l.getD p 0 < x) := hrise
          clear hrise
          obtain ⟨kb, hkb⟩ : ∃ kb, ins R C ms x = kb := ⟨_, rfl⟩
          rw [hkb] at HB hmem
          have hkl : kb.length ≤ 1024 := by rw [← hkb]; have := ins_len R C ms x; rw [HN.out] at this; omega
          clear hkb
          have hall := anyK_all hmem
          clear hmem
          obtain ⟨lk, hlk⟩ : ∃ lk, kb.length = lk := ⟨_, rfl⟩
          have HLK : Hid (kb.length = lk) := hlk
          rw [hlk] at HB hkl hall
          clear hlk
          generalize ((kindB ms k).toNat : Int) = ka at *
          generalize ((kindB ms x).toNat : Int) = kx at *
          rcases q with _ | p
          · have Hq : Hid (0 < ln) := hql
            go_wp2_with (first
              | (go_at_call 17; (with_reducible refine (HFar.out _ H0.out).mono ?_); rintro e w8 ⟨rfl, hm⟩; have H8 : Hid (M1 w bm gm cm R C ms w8 ∧ LstN bm w8 (.slice (some ⟨g, 0, none⟩) ln cl) l) := hm; clear hm)
              | (go_at_call 23; (with_reducible refine (HFa.out _ H8.out.1).mono ?_); rintro e w' ⟨rfl, rfl⟩)
              | (go_at_call 23; (with_reducible refine (HFb.out _ H8.out.1).mono ?_); rintro e w' ⟨rfl, rfl⟩)
              | (go_at_call 15; (with_reducible refine (HE.out _ H8.out).mono ?_); rintro e w9 ⟨rfl, hm⟩; have H9 : Hid (M1 w bm gm cm R C ms w9 ∧ LstN bm w9 (.slice (some ⟨g, 0, none⟩) ln cl) l) := hm; skip; clear hm)
              | (go_at_call 13; (with_reducible refine (HB.out _ H9.out).mono ?_); rintro e w10 ⟨ak, ck, rfl, hm⟩; have H10 : Hid ((M1 w bm gm cm R C ms w10 ∧ LstN bm w10 (.slice (some ⟨g, 0, none⟩) ln cl) l) ∧ LstN bm w10 (.slice ak lk ck) kb) := hm; clear hm))
            clear H8 HFar HFa HFb HE HB
            go_loop [17, 19] (fun fr jv => ∃ j : Nat, j ≤ lk ∧ jv = .int .i64 j ∧ fr = .bool (anyK kb k j)) (fun _ jv => lk - (intOf jv).toNat)
            case atStart => exact ⟨0, Nat.zero_le _, rfl, rfl⟩
            case round =>
              obtain ⟨j, hj, rfl, rfl⟩ := hrel
              by_cases hjl : j < lk
              · have hst := anyK_step kb k j
                obtain ⟨ak2, ck2, hve, hcs⟩ := H10.out.2
                obtain ⟨gk, hge, _, hcj⟩ := hcs j (by rw [HLK.out]; exact hjl)
                subst hge
                simp only [Value.slice.injEq] at hve
                obtain ⟨rfl, _, rfl⟩ := hve
                clear hcs
                obtain ⟨z, hz⟩ : ∃ z, kb.getD j 0 = z := ⟨_, rfl⟩
                rw [hz] at hcj hst
                clear hz
                have hji : (j : Int) < (lk : Int) := by omega
                have hj0 : (0 : Int) ≤ (j : Int) := by omega
                cases hf : anyK kb k j
                · by_cases hzk : z = k
                  · have hb : ((z : Int) == (k : Int)) = true := by simp [hzk]
                    have Hst : Hid (anyK kb k (j + 1) = true) := by show _ = _; rw [hst, hf]; simp [hzk]
                    clear hst hzk
                    go_wp2
                    go_round
                    case rel => exact ⟨j + 1, by omega, by go_num, by rw [Hst.out]⟩
                    case measure => simp [intOf]; omega
                  · have hb : ((z : Int) == (k : Int)) = false := by simp; omega
                    have Hst : Hid (anyK kb k (j + 1) = false) := by show _ = _; rw [hst, hf]; simp [hzk]
                    clear hst hzk
                    go_wp2
                    go_round
                    case rel => exact ⟨j + 1, by omega, by go_num, by rw [Hst.out]⟩
                    case measure => simp [intOf]; omega
                · have Hst : Hid (anyK kb k (j + 1) = true) := by show _ = _; rw [hst, hf]; simp
                  clear hst
                  go_wp2
                  go_round
                  case rel => exact ⟨j + 1, by omega, by go_num, by rw [Hst.out]⟩
                  case measure => simp [intOf]; omega
              · obtain rfl : j = lk := by omega
                rw [hall]
                cases hA : (ka == 46)
                · go_wp2_with (go_at_call 24; (with_reducible refine (HKa.out _ H10.out.1.1).mono ?_); rintro e w' ⟨rfl, rfl⟩)
                  go_roundw
                  case rel => exact ⟨1, by omega, by go_num, H10.out.1⟩
                  case measure => simp [intOf]; omega
                · cases hB : (kx == 46)
                  · go_wp2_with (first
                      | (go_at_call 24; (with_reducible refine (HKa.out _ H10.out.1.1).mono ?_); rintro e w' ⟨rfl, rfl⟩)
                      | (go_at_call 24; (with_reducible refine (HKb.out _ H10.out.1.1).mono ?_); rintro e w' ⟨rfl, rfl⟩))
                    go_roundw
                    case rel => exact ⟨1, by omega, by go_num, H10.out.1⟩
                    case measure => simp [intOf]; omega
                  · have HH := HHm.out w10 H10.out.1 hA hB
                    have HH2 : Hid (Calls Tryd.prog 15 #[.pointer (some ⟨bm, 0, none⟩), .int .i64 (x : Int), .int .i64 (k : Int)] w10 fun e w' => e = .returned (.bool true) ∧ (M1 w bm gm cm R C ms w' ∧ LstN bm w' (.slice (some ⟨g, 0, none⟩) ln cl) l)) := HH
                    clear HH
                    go_wp2_with (first
                      | (go_at_call 24; (with_reducible refine (HKa.out _ H10.out.1.1).mono ?_); rintro e w' ⟨rfl, rfl⟩)
                      | (go_at_call 24; (with_reducible refine (HKb.out _ H10.out.1.1).mono ?_); rintro e w' ⟨rfl, rfl⟩)
                      | (go_at_call 15; (with_reducible refine HH2.out.mono ?_); rintro e w11 ⟨rfl, hm⟩; have H11 : Hid (M1 w bm gm cm R C ms w11 ∧ LstN bm w11 (.slice (some ⟨g, 0, none⟩) ln cl) l) := hm; clear hm))
                    go_roundw
                    case rel => exact ⟨1, by omega, by go_num, H11.out⟩
                    case measure => simp [intOf]; omega
          · obtain ⟨y, hy⟩ : ∃ y, l.getD p 0 = y := ⟨_, rfl⟩
            have hyx : y < x := by rw [← hy]; exact Hrise.out p rfl
            have HY : Hid (l.getD p 0 = y) := hy
            clear hy
            have hble : (decide ((x : Int) ≤ (y : Int))) = false := by simp; omega
            have hw1 : IntKind.i64.wrap (((p + 1 : Nat) : Int) - 1) = (p : Int) := by rw [IntWalk.i64_in _ (by omega)]; omega
            have hpi : (p : Int) < (ln : Int) := by omega
            have hp0 : (0 : Int) ≤ (p : Int) := by omega
            go_wp2_with (first
              | (go_at_call 17; (with_reducible refine (HFar.out _ H0.out).mono ?_); rintro e w8 ⟨rfl, hm⟩; have H8 : Hid (M1 w bm gm cm R C ms w8 ∧ LstN bm w8 (.slice (some ⟨g, 0, none⟩) ln cl) l) := hm; clear hm)
              | (go_at_call 23; (with_reducible refine (HFa.out _ H8.out.1).mono ?_); rintro e w' ⟨rfl, rfl⟩)
              | (go_at_call 23; (with_reducible refine (HFb.out _ H8.out.1).mono ?_); rintro e w' ⟨rfl, rfl⟩)
              | (go_at_call 15; (with_reducible refine (HE.out _ H8.out).mono ?_); rintro e w9 ⟨rfl, hm⟩; have H9 : Hid (M1 w bm gm cm R C ms w9 ∧ LstN bm w9 (.slice (some ⟨g, 0, none⟩) ln cl) l) := hm; obtain ⟨_, hge, hcp⟩ := HCell.out _ p (by omega) hm.2; cases hge; rw [HY.out] at hcp; clear hm)
              | (go_at_call 13; (with_reducible refine (HB.out _ H9.out).mono ?_); rintro e w10 ⟨ak, ck, rfl, hm⟩; have H10 : Hid ((M1 w bm gm cm R C ms w10 ∧ LstN bm w10 (.slice (some ⟨g, 0, none⟩) ln cl) l) ∧ LstN bm w10 (.slice ak lk ck) kb) := hm; clear hm))
            clear H8 HFar HFa HFb HE HB
            go_loop [17, 19] (fun fr jv => ∃ j : Nat, j ≤ lk ∧ jv = .int .i64 j ∧ fr = .bool (anyK kb k j)) (fun _ jv => lk - (intOf jv).toNat)
            case atStart => exact ⟨0, Nat.zero_le _, rfl, rfl⟩
            case round =>
              obtain ⟨j, hj, rfl, rfl⟩ := hrel
              by_cases hjl : j < lk
              · have hst := anyK_step kb k j
                obtain ⟨ak2, ck2, hve, hcs⟩ := H10.out.2
                obtain ⟨gk, hge, _, hcj⟩ := hcs j (by rw [HLK.out]; exact hjl)
                subst hge
                simp only [Value.slice.injEq] at hve
                obtain ⟨rfl, _, rfl⟩ := hve
                clear hcs
                obtain ⟨z, hz⟩ : ∃ z, kb.getD j 0 = z := ⟨_, rfl⟩
                rw [hz] at hcj hst
                clear hz
                have hji : (j : Int) < (lk : Int) := by omega
                have hj0 : (0 : Int) ≤ (j : Int) := by omega
                cases hf : anyK kb k j
                · by_cases hzk : z = k
                  · have hb : ((z : Int) == (k : Int)) = true := by simp [hzk]
                    have Hst : Hid (anyK kb k (j + 1) = true) := by show _ = _; rw [hst, hf]; simp [hzk]
                    clear hst hzk
                    go_wp2
                    go_round
                    case rel => exact ⟨j + 1, by omega, by go_num, by rw [Hst.out]⟩
                    case measure => simp [intOf]; omega
                  · have hb : ((z : Int) == (k : Int)) = false := by simp; omega
                    have Hst : Hid (anyK kb k (j + 1) = false) := by show _ = _; rw [hst, hf]; simp [hzk]
                    clear hst hzk
                    go_wp2
                    go_round
                    case rel => exact ⟨j + 1, by omega, by go_num, by rw [Hst.out]⟩
                    case measure => simp [intOf]; omega
                · have Hst : Hid (anyK kb k (j + 1) = true) := by show _ = _; rw [hst, hf]; simp
                  clear hst
                  go_wp2
                  go_round
                  case rel => exact ⟨j + 1, by omega, by go_num, by rw [Hst.out]⟩
                  case measure => simp [intOf]; omega
              · obtain rfl : j = lk := by omega
                rw [hall]
                cases hA : (ka == 46)
                · go_wp2_with (go_at_call 24; (with_reducible refine (HKa.out _ H10.out.1.1).mono ?_); rintro e w' ⟨rfl, rfl⟩)
                  go_roundw
                  case rel => exact ⟨p + 2, by omega, by go_num, H10.out.1⟩
                  case measure => simp [intOf]; omega
                · cases hB : (kx == 46)
                  · go_wp2_with (first
                      | (go_at_call 24; (with_reducible refine (HKa.out _ H10.out.1.1).mono ?_); rintro e w' ⟨rfl, rfl⟩)
                      | (go_at_call 24; (with_reducible refine (HKb.out _ H10.out.1.1).mono ?_); rintro e w' ⟨rfl, rfl⟩))
                    go_roundw
                    case rel => exact ⟨p + 2, by omega, by go_num, H10.out.1⟩
                    case measure => simp [intOf]; omega
                  · have HH := HHm.out w10 H10.out.1 hA hB
                    have HH2 : Hid (Calls Tryd.prog 15 #[.pointer (some ⟨bm, 0, none⟩), .int .i64 (x : Int), .int .i64 (k : Int)] w10 fun e w' => e = .returned (.bool true) ∧ (M1 w bm gm cm R C ms w' ∧ LstN bm w' (.slice (some ⟨g, 0, none⟩) ln cl) l)) := HH
                    clear HH
                    go_wp2_with (first
                      | (go_at_call 24; (with_reducible refine (HKa.out _ H10.out.1.1).mono ?_); rintro e w' ⟨rfl, rfl⟩)
                      | (go_at_call 24; (with_reducible refine (HKb.out _ H10.out.1.1).mono ?_); rintro e w' ⟨rfl, rfl⟩)
                      | (go_at_call 15; (with_reducible refine HH2.out.mono ?_); rintro e w11 ⟨rfl, hm⟩; have H11 : Hid (M1 w bm gm cm R C ms w11 ∧ LstN bm w11 (.slice (some ⟨g, 0, none⟩) ln cl) l) := hm; clear hm))
                    go_roundw
                    case rel => exact ⟨p + 2, by omega, by go_num, H11.out⟩
                    case measure => simp [intOf]; omega
        · obtain rfl : q = ln := by omega
          go_wp2
          go_roundw
          case rel =>
            have h5 := HREL.out _ H0.out.1
            rw [hs1] at h5
            simpa using h5
          case measure => simp [intOf]; omega
    · obtain rfl : k = N := by omega
      go_wp2_with (first
        | (go_at_call 22; (with_reducible refine (HCl.out _ H0.out).mono ?_); rintro e w' ⟨rfl, rfl⟩)
        | (go_at_call 19; (with_reducible refine (HEd.out _ H0.out).mono ?_); rintro e w6 ⟨rfl, hm⟩; have H6 : Hid (M1 w bm gm cm R C ms w6) := hm; clear hm))
      go_ret
      exact ⟨by simp, H6.out.bl⟩

theorem back_all (s : ByteArray) (w : World) (hw : Ways w) :
    Calls Tryd.prog 4 #[.string s] w fun e w' => e = .returned (.bool true) ∧ Below w.heap.size w w' := by
  by_cases h : 1200 < s.size
  · exact back_long s w hw h
  · cases hv : Pure.verdict s.data.toList with
    | bad l c => exact back_bad s w hw (by omega) hv
    | good L => exact back_good s w hw (by omega) hv
end Go.Proofs.YtlkojoinbogkmaaDoor
