/-
  SegmentInside: its walk.
-/
import Derived.Test.YtkfijjjnidiejaaDoorSgN
namespace Go.Proofs.YtkfijjjnidiejaaDoor
set_option maxRecDepth 100000
set_option linter.unusedSimpArgs false
open Go Go.RowKit

set_option maxHeartbeats 1000000 in
theorem si_out (s : ByteArray) (x y : Nat) (w : World) (hw : Ways w) (hs : s.size ≤ maxLen) (h : 400 < s.size) :
    Calls Tryd.prog 4 #[.string s, .int .u8 (x : Int), .int .u8 (y : Int)] w fun e w' => e = .returned (.bool true) ∧ Below w.heap.size w w' := by
  have HA := Lib.hid (salive_any w hw)
  cases hv : Pure.verdict s.data.toList with
  | bad l c =>
    have HO : Hid (∀ w1, Below w.heap.size w w1 → Calls Tryd.prog 15 #[.string s] w1 fun e w' => e = .returned (.pointer none) ∧ Below w.heap.size w w') := fun w1 hb => of_bad2 hv hb hs
    clear hw hs hv
    go_enter Tryd.func4, Tryd.ntmps4
    go_wp2_with (first
      | (go_at_call 14; (with_reducible refine HA.out.mono ?_); rintro e w1 ⟨rfl, hb⟩)
      | (go_at_call 15; (with_reducible refine (HO.out _ hb).mono ?_); rintro e w2 ⟨rfl, hb2⟩))
    go_ret
    exact ⟨rfl, hb2⟩
  | good L =>
    have HO : Hid (∀ w1, Below w.heap.size w w1 → Calls Tryd.prog 15 #[.string s] w1 fun e w' => ∃ p, e = .returned (.pointer (some ⟨p, 0, none⟩)) ∧ Below w.heap.size w w') := fun w1 hb => by
      refine (of_good2 hv hw hb hs).mono ?_
      rintro e w' ⟨p, bm, gm, cm, rfl, h1⟩
      exact ⟨p, rfl, h1.bl⟩
    clear hw hs hv
    go_enter Tryd.func4, Tryd.ntmps4
    go_wp2_with (first
      | (go_at_call 14; (with_reducible refine HA.out.mono ?_); rintro e w1 ⟨rfl, hb⟩)
      | (go_at_call 15; (with_reducible refine (HO.out _ hb).mono ?_); rintro e w2 ⟨p, rfl, hb2⟩))
    go_ret
    exact ⟨rfl, hb2⟩
set_option maxHeartbeats 1000000 in
theorem si_bad (s : ByteArray) (x y : Nat) (w : World) (hw : Ways w) (hs : s.size ≤ 400) {l c : Nat} (hv : Pure.verdict s.data.toList = .bad l c) :
    Calls Tryd.prog 4 #[.string s, .int .u8 (x : Int), .int .u8 (y : Int)] w fun e w' => e = .returned (.bool true) ∧ Below w.heap.size w w' := by
  have HA := Lib.hid (salive_any w hw)
  have HO : Hid (∀ w1, Below w.heap.size w w1 → Calls Tryd.prog 15 #[.string s] w1 fun e w' => e = .returned (.pointer none) ∧ Below w.heap.size w w') := fun w1 hb => of_bad2 hv hb (by unfold maxLen; omega)
  clear hw hv
  go_enter Tryd.func4, Tryd.ntmps4
  go_wp2_with (first
    | (go_at_call 14; (with_reducible refine HA.out.mono ?_); rintro e w1 ⟨rfl, hb⟩)
    | (go_at_call 15; (with_reducible refine (HO.out _ hb).mono ?_); rintro e w2 ⟨rfl, hb2⟩))
  go_ret
  exact ⟨rfl, hb2⟩

set_option maxHeartbeats 4000000 in
theorem si_good (s : ByteArray) (x y : Nat) (hx : x ≤ 255) (hy : y ≤ 255) (w : World) (hw : Ways w) (hs : s.size ≤ 400) {L : List (List UInt8)} (hv : Pure.verdict s.data.toList = .good L) :
    Calls Tryd.prog 4 #[.string s, .int .u8 (x : Int), .int .u8 (y : Int)] w fun e w' => e = .returned (.bool true) ∧ Below w.heap.size w w' := by
  have HA := Lib.hid (salive_any w hw)
  have hG := (Pure.good_of hv).1
  have HO := Lib.hid (fun (w1 : World) (hb : Below w.heap.size w w1) => of_good2 hv hw hb (by unfold maxLen; omega))
  have ho := sgok_of hG
  obtain ⟨R, hR⟩ : ∃ R, R = L.length := ⟨_, rfl⟩
  obtain ⟨C, hCe⟩ : ∃ C, C = Pure.wid L := ⟨_, rfl⟩
  obtain ⟨ms, hms⟩ : ∃ ms, ms = L.flatten := ⟨_, rfl⟩
  rw [← hR, ← hCe, ← hms] at HO ho
  clear hv hG hw hR hCe hms L
  have HOk := Lib.hid ho
  have e0 := ins_self_iff ho (x : Int)
  have HFr : Hid (∀ p bm gm cm W, M2 w bm gm cm R C ms p (planF R C ms) W → Calls Tryd.prog 9 #[.pointer (some ⟨bm, 0, none⟩), .int .i64 (x : Int)] W fun e w' => e = .returned (.bool (freeB ms (x : Int))) ∧ W = w') := fun p bm gm cm W h => m2_free h _ rfl
  have HZn : Hid (∀ p bm gm cm W, M2 w bm gm cm R C ms p (planF R C ms) W → Calls Tryd.prog 17 #[.pointer (some ⟨p, 0, none⟩), .int .i64 (x : Int), .int .i64 (y : Int)] W fun e w' => e = .returned (.int .i64 (insZ R C ms (planF R C ms) (x : Int) (y : Int))) ∧ M2 w bm gm cm R C ms p (planF R C ms) w' ∧ Below W.heap.size W w') := fun p bm gm cm W h => m2_ins ho h _ _ rfl
  have HZ0 : Hid (∀ p bm gm cm W, M2 w bm gm cm R C ms p (planF R C ms) W → Calls Tryd.prog 17 #[.pointer (some ⟨p, 0, none⟩), .int .i64 (x : Int), .int .i64 (x : Int)] W fun e w' => e = .returned (.int .i64 (insZ R C ms (planF R C ms) (x : Int) (x : Int))) ∧ M2 w bm gm cm R C ms p (planF R C ms) w' ∧ Below W.heap.size W w') := fun p bm gm cm W h => m2_ins ho h _ _ rfl
  have HZc : Hid (∀ p bm gm cm W (c : Nat), M2 w bm gm cm R C ms p (planF R C ms) W → ∀ v, insZ R C ms (planF R C ms) (x : Int) (c : Int) = v → Calls Tryd.prog 17 #[.pointer (some ⟨p, 0, none⟩), .int .i64 (x : Int), .int .i64 (c : Int)] W fun e w' => e = .returned (.int .i64 v) ∧ M2 w bm gm cm R C ms p (planF R C ms) w' ∧ Below W.heap.size W w') := fun p bm gm cm W c h v hv => m2_ins ho h _ _ hv
  have HFa : Hid (∀ p bm gm cm W, M2 w bm gm cm R C ms p (planF R C ms) W → Calls Tryd.prog 20 #[.pointer (some ⟨bm, 0, none⟩), .int .i64 (x : Int), .int .i64 (y : Int)] W fun e w' => e = .returned (.int .i64 (farZ C ms.length (x : Int) (y : Int))) ∧ M2 w bm gm cm R C ms p (planF R C ms) w' ∧ Below W.heap.size W w') := fun p bm gm cm W h => m2_far ho h _ _
  have wx : IntKind.i64.wrap (x : Int) = (x : Int) := IntWalk.i64_in _ (by omega)
  have wy : IntKind.i64.wrap (y : Int) = (y : Int) := IntWalk.i64_in _ (by omega)
  by_cases hz : insZ R C ms (planF R C ms) (x : Int) (y : Int) < 0
  · have d0 : decide (insZ R C ms (planF R C ms) (x : Int) (y : Int) < 0) = true := decide_eq_true hz
    clear hz ho HZc HFa
    generalize insZ R C ms (planF R C ms) (x : Int) (y : Int) = z at *
    generalize insZ R C ms (planF R C ms) (x : Int) (x : Int) = z0 at *
    generalize freeB ms (x : Int) = f at *
    go_enter Tryd.func4, Tryd.ntmps4
    go_wp2_with (first
      | (go_at_call 14; (with_reducible refine HA.out.mono ?_); rintro e w1 ⟨rfl, hb⟩)
      | (go_at_call 15; (with_reducible refine (HO.out _ hb).mono ?_); rintro e w2 ⟨p, bm, gm, cm, rfl, hm2⟩; have H2 := Lib.hid hm2; clear hm2)
      | (go_at_call 16; (with_reducible refine (m2_map H2.out).mono ?_); rintro e w' ⟨rfl, rfl⟩)
      | (go_at_call 17; (with_reducible refine (HZn.out _ _ _ _ _ H2.out).mono ?_); rintro e w3 ⟨rfl, hm3, _⟩; have H3 := Lib.hid hm3; clear hm3)
      | (go_at_call 9; (with_reducible refine (HFr.out _ _ _ _ _ H3.out).mono ?_); rintro e w' ⟨rfl, rfl⟩)
      | (go_at_call 17; (with_reducible refine (HZ0.out _ _ _ _ _ H3.out).mono ?_); rintro e w4 ⟨rfl, hm4, _⟩; have H4 := Lib.hid hm4; clear hm4))
    go_ret
    exact ⟨rfl, H4.out.bl⟩
  · obtain ⟨a, b, sg, ea, eb, ha, hb, hoa, hob, hsc, hfar, hlt, hnx⟩ := ins_facts ho (by omega : 0 ≤ insZ R C ms (planF R C ms) (x : Int) (y : Int))
    obtain rfl : a = x := by omega
    obtain rfl : b = y := by omega
    have hll := seg_len ho hsc
    obtain ⟨ll, hle⟩ : ∃ ll, ll = ((planF R C ms).cells.getD sg []).length := ⟨_, rfl⟩
    rw [← hle] at hlt hll
    have d0 : decide (insZ R C ms (planF R C ms) (a : Int) (b : Int) < 0) = false := decide_eq_false hz
    have d1 : decide (farZ C ms.length (a : Int) (b : Int) ≤ insZ R C ms (planF R C ms) (a : Int) (b : Int)) = true := decide_eq_true hfar
    have d2 : decide (insZ R C ms (planF R C ms) (a : Int) (b : Int) < (ll : Int)) = true := decide_eq_true hlt
    have wz : IntKind.i64.wrap (insZ R C ms (planF R C ms) (a : Int) (b : Int) + 1) = insZ R C ms (planF R C ms) (a : Int) (b : Int) + 1 := IntWalk.i64_in _ (by omega)
    have HCl : Hid (∀ p bm gm cm W, M2 w bm gm cm R C ms p (planF R C ms) W → Calls Tryd.prog 21 #[.pointer (some ⟨p, 0, none⟩), .int .i64 (sg : Int)] W fun e w' => ∃ a c, e = .returned (.slice a ll c) ∧ M2 w bm gm cm R C ms p (planF R C ms) w') := fun p bm gm cm W h => (m2_cls ho h hsc).mono fun e w' h' => by
      obtain ⟨a', c', h1, h2, _⟩ := h'
      exact ⟨a', c', by rw [hle]; exact h1, h2⟩
    have HSa : Hid (∀ p bm gm cm W, M2 w bm gm cm R C ms p (planF R C ms) W → Calls Tryd.prog 19 #[.pointer (some ⟨p, 0, none⟩), .int .i64 (a : Int)] W fun e w' => e = .returned (.int .i64 (sg : Int)) ∧ W = w') := fun p bm gm cm W h => hoa ▸ m2_seg h ha
    have HSb : Hid (∀ p bm gm cm W, M2 w bm gm cm R C ms p (planF R C ms) W → Calls Tryd.prog 19 #[.pointer (some ⟨p, 0, none⟩), .int .i64 (b : Int)] W fun e w' => e = .returned (.int .i64 (sg : Int)) ∧ W = w') := fun p bm gm cm W h => hob ▸ m2_seg h hb
    have HSc : Hid (∀ p bm gm cm W (c : Nat), c < ms.length → M2 w bm gm cm R C ms p (planF R C ms) W → Calls Tryd.prog 19 #[.pointer (some ⟨p, 0, none⟩), .int .i64 (c : Int)] W fun e w' => e = .returned (.int .i64 ((planF R C ms).of.getD c 0)) ∧ W = w') := fun p bm gm cm W c hc h => m2_seg h hc
    have HNx : Hid (∀ p bm gm cm W n, n = (outs R C ms b).length → M2 w bm gm cm R C ms p (planF R C ms) W → Calls Tryd.prog 18 #[.pointer (some ⟨bm, 0, none⟩), .int .i64 (b : Int)] W fun e w' => ∃ a c, e = .returned (.slice a n c) ∧ M2 w bm gm cm R C ms p (planF R C ms) w' ∧ Lst w' (.slice a n c) (outs R C ms b) ∧ Below W.heap.size W w') := fun p bm gm cm W n hn h => m2_next h hb hn
    have HNf := Lib.hid hnx
    obtain ⟨n, hn⟩ : ∃ n, n = (outs R C ms b).length := ⟨_, rfl⟩
    have HNx' := Lib.hid (fun p bm gm cm W => HNx.out p bm gm cm W n hn)
    have hn4 : n ≤ 4 := by rw [hn]; exact outs_len R C ms b
    have HNl := Lib.hid hn
    clear hz ho ea eb hoa hob hsc hfar hlt hle hnx hn HNx
    generalize farZ C ms.length (a : Int) (b : Int) = fa at *
    go_enter Tryd.func4, Tryd.ntmps4
    go_wp2_with (first
      | (go_at_call 14; (with_reducible refine HA.out.mono ?_); rintro e w1 ⟨rfl, hb⟩)
      | (go_at_call 15; (with_reducible refine (HO.out _ hb).mono ?_); rintro e w2 ⟨p, bm, gm, cm, rfl, hm2⟩; have H2 := Lib.hid hm2; clear hm2)
      | (go_at_call 16; (with_reducible refine (m2_map H2.out).mono ?_); rintro e w' ⟨rfl, rfl⟩)
      | (go_at_call 17; (with_reducible refine (HZn.out _ _ _ _ _ H2.out).mono ?_); rintro e w3 ⟨rfl, hm3, _⟩; have H3 := Lib.hid hm3; clear hm3)
      | (go_at_call 9; (with_reducible refine (HFr.out _ _ _ _ _ H3.out).mono ?_); rintro e w' ⟨rfl, rfl⟩)
      | (go_at_call 17; (with_reducible refine (HZ0.out _ _ _ _ _ H3.out).mono ?_); rintro e w4 ⟨rfl, hm4, _⟩; have H4 := Lib.hid hm4; clear hm4)
      | (go_at_call 18; (with_reducible refine (HNx'.out _ _ _ _ _ H4.out).mono ?_); rintro e w5 ⟨a5, c5, rfl, hm5, hl5, _⟩; have H5 := Lib.hid hm5; have HL5 := Lib.hid hl5; clear hm5 hl5))
    go_loopw [57] (fun u wr => ∃ j : Nat, j ≤ n ∧ u = .int .i64 (j : Int) ∧ M2 w bm gm cm R C ms p (planF R C ms) wr ∧ Lst wr (.slice a5 n c5) (outs R C ms b)) (fun u _ => n - (intOf u).toNat)
    case atStart => exact ⟨0, Nat.zero_le _, rfl, H5.out, HL5.out⟩
    case round =>
      obtain ⟨j, hj, rfl, hm, hl⟩ := hrel
      rename World => U
      have HMu := Lib.hid hm
      have HLu := Lib.hid hl
      clear hm hl H5 HL5
      by_cases hjn : j < n
      · have hjl : j < (outs R C ms b).length := by rw [← HNl.out]; exact hjn
        obtain ⟨g, rfl, fx⟩ := lst_at HLu.out hjl
        have hcm : (outs R C ms b).getD j 0 ∈ outs R C ms b := by
          rw [show (outs R C ms b).getD j 0 = (outs R C ms b)[j] by simp [List.getD, hjl]]
          exact List.getElem_mem hjl
        obtain ⟨hcN, hcf⟩ := HNf.out _ hcm
        have HRj : Hid (∀ W', M2 w bm gm cm R C ms p (planF R C ms) W' → Lst W' (.slice (some ⟨g, 0, none⟩) n c5) (outs R C ms b) → ∃ j' : Nat, j' ≤ n ∧ Value.int .i64 ((j : Int) + 1) = .int .i64 (j' : Int) ∧ M2 w bm gm cm R C ms p (planF R C ms) W' ∧ Lst W' (.slice (some ⟨g, 0, none⟩) n c5) (outs R C ms b)) := fun W' h1 h2 => ⟨j + 1, by omega, by go_num, h1, h2⟩
        have j0 : (j : Int) < (n : Int) := by omega
        have j1 : (0 : Int) ≤ (j : Int) := by omega
        obtain ⟨zc, hzc⟩ : ∃ zc, zc = insZ R C ms (planF R C ms) (a : Int) (((outs R C ms b).getD j 0 : Nat) : Int) := ⟨_, rfl⟩
        have HZk := Lib.hid (fun W h => HZc.out p bm gm cm W _ h zc hzc.symm)
        have HSk := Lib.hid (fun W h => HSc.out p bm gm cm W _ hcN h)
        rw [← hzc] at hcf
        clear hcm hjl hzc
        generalize (outs R C ms b).getD j 0 = c at *
        generalize (planF R C ms).of.getD c 0 = oc at *
        generalize insZ R C ms (planF R C ms) (a : Int) (b : Int) = z at *
        by_cases hos : oc = (sg : Int)
        · obtain ⟨k1, k2⟩ := hcf hos
          have e1 : (oc == (sg : Int)) = true := by simp [hos]
          have e2 : decide (zc < 0) = false := decide_eq_false (by omega)
          have e3 : decide (z + 1 < zc) = false := decide_eq_false (by omega)
          clear hcf hos k1 k2 hcN
          go_wp2_with (first
            | (go_at_call 17; (with_reducible refine (HZk.out _ HMu.out).mono ?_); rintro e w6 ⟨rfl, hm6, hb6⟩; have H6 := Lib.hid hm6; have HL6 := Lib.hid (HLu.out.below hb6); clear hm6 hb6)
            | (go_at_call 19; (first | (with_reducible refine (HSk.out _ H6.out).mono ?_) | (with_reducible refine (HSb.out _ _ _ _ _ H6.out).mono ?_)); rintro e w' ⟨rfl, rfl⟩))
          have HG := Lib.hid (HRj.out _ H6.out HL6.out)
          clear HRj
          go_roundw
          case rel => exact HG.out
          case measure => simp [intOf]; omega
        · have e1 : (oc == (sg : Int)) = false := by simpa using hos
          clear hcf hos hcN
          go_wp2_with (first
            | (go_at_call 17; (with_reducible refine (HZk.out _ HMu.out).mono ?_); rintro e w6 ⟨rfl, hm6, hb6⟩; have H6 := Lib.hid hm6; have HL6 := Lib.hid (HLu.out.below hb6); clear hm6 hb6)
            | (go_at_call 19; (first | (with_reducible refine (HSk.out _ H6.out).mono ?_) | (with_reducible refine (HSb.out _ _ _ _ _ H6.out).mono ?_)); rintro e w' ⟨rfl, rfl⟩))
          have HG := Lib.hid (HRj.out _ H6.out HL6.out)
          clear HRj
          go_roundw
          case rel => exact HG.out
          case measure => simp [intOf]; omega
      · obtain rfl : j = n := by omega
        clear HLu HZc HNf
        generalize insZ R C ms (planF R C ms) (a : Int) (b : Int) = z at *
        go_wp2_with (first
          | (go_at_call 19; (first | (with_reducible refine (HSa.out _ _ _ _ _ HMu.out).mono ?_) | (with_reducible refine (HSb.out _ _ _ _ _ HMu.out).mono ?_)); rintro e w' ⟨rfl, rfl⟩)
          | (go_at_call 20; (with_reducible refine (HFa.out _ _ _ _ _ HMu.out).mono ?_); rintro e w7 ⟨rfl, hm7, _⟩; have H7 := Lib.hid hm7; clear hm7)
          | (go_at_call 19; (with_reducible refine (HSa.out _ _ _ _ _ H7.out).mono ?_); rintro e w' ⟨rfl, rfl⟩)
          | (go_at_call 21; (with_reducible refine (HCl.out _ _ _ _ _ H7.out).mono ?_); rintro e w8 ⟨a8, c8, rfl, hm8⟩; have H8 := Lib.hid hm8; clear hm8))
        go_ret
        exact ⟨rfl, H8.out.bl⟩

/-- The law, for every text and any two cells. -/
theorem si_all (s : ByteArray) (x y : Nat) (hx : x ≤ 255) (hy : y ≤ 255) (w : World) (hw : Ways w) (hs : s.size ≤ maxLen) :
    Calls Tryd.prog 4 #[.string s, .int .u8 (x : Int), .int .u8 (y : Int)] w fun e w' => e = .returned (.bool true) ∧ Below w.heap.size w w' := by
  by_cases h : 400 < s.size
  · exact si_out s x y w hw hs h
  · cases hv : Pure.verdict s.data.toList with
    | bad l c => exact si_bad s x y w hw (Nat.le_of_not_lt h) hv
    | good L => exact si_good s x y hx hy w hw (Nat.le_of_not_lt h) hv
theorem u8_in {n : Int} (h : (Lit.int .u8 n).wf = true) : 0 ≤ n ∧ n ≤ 255 := by
  have h1 : IntKind.u8.min = 0 := rfl
  have h2 : IntKind.u8.max = 255 := rfl
  simp only [Lit.wf, Bool.and_eq_true, decide_eq_true_eq] at h
  omega
end Go.Proofs.YtkfijjjnidiejaaDoor
