/-
  RouteFinds: its walk on a good map.
-/
import Derived.Test.YtkedjnhidfnlkaaDoorFs4
namespace Go.Proofs.YtkedjnhidfnlkaaDoor
set_option maxRecDepth 100000
set_option linter.unusedSimpArgs false
open Go Go.RowKit Rq

set_option maxHeartbeats 4000000 in
theorem rf_good (s : ByteArray) (fr to_ bud : Int) (B : Option Addr) (ban : List Int) (cb : Nat) (w : World) (hw : Ways w) (h : s.size ≤ 230) (hbn : ban.length ≤ 100) (hB : IntsAt w B ban) {L : List (List UInt8)} (hv : Pure.verdict s.data.toList = .good L) :
    Calls Tryd.prog 3 #[.string s, .int .i64 fr, .int .i64 to_, .slice B ban.length cb, .int .i64 bud] w fun e w' => e = .returned (.bool true) ∧ Below w.heap.size w w' := by
  have hgt := Pure.good_of hv
  have HP : Hid (∀ w, Calls Tryd.prog 12 #[.string s] w fun e w' => ∃ b g cap, e = .returned (.tuple #[.pointer (some ⟨b, 0, none⟩), .int .i64 0, .int .i64 0, .int .i64 0]) ∧ (MapAt w' b g cap L ∧ Below w.heap.size w w' ∧ w.heap.size ≤ b)) := by
    intro w
    refine (parse_any s w (by omega)).mono ?_
    rintro e w' ⟨h1, h2⟩
    rw [hv] at h2
    obtain ⟨g, cap, h3, h4⟩ := h2
    exact ⟨_, g, cap, h3, h4, h1, Nat.le_refl _⟩
  have HR : Hid (∀ w, Calls Tryd.prog 13 #[.string s] w fun e w' => ∃ b g cap Q, e = .returned (.tuple #[.pointer (some ⟨b, 0, none⟩), .int .i64 0, .int .i64 0, .int .i64 0]) ∧ (lsts Q = L ∧ RefAt w' b g cap Q ∧ Below w.heap.size w w' ∧ w.heap.size ≤ b)) := by
    intro w
    refine (ref_all s w (by omega)).mono ?_
    rintro e w' ⟨h1, h2⟩
    rw [hv] at h2
    obtain ⟨g, cap, Q, hq, h3, h4⟩ := h2
    exact ⟨_, g, cap, Q, h3, hq, h4, h1, Nat.le_refl _⟩
  have HW : Hid (Ways w) := hw
  clear hv hw
  have HG : Hid (Pure.Good L) := hgt.1
  clear hgt
  have HBI := Lib.hid hB
  obtain ⟨m, hm⟩ : ∃ m, m = ban.length := ⟨_, rfl⟩
  have HMn := Lib.hid hm
  rw [← hm] at hbn ⊢
  clear hB hm
  go_enter Tryd.func3, Tryd.ntmps3
  go_wp2_with (first
    | (go_at_call 12; (with_reducible refine (HP.out _).mono ?_); rintro e w1 ⟨bm, gm, cm, rfl, hm1⟩; have HM : Hid (MapAt w1 bm gm cm L ∧ Below w.heap.size w w1 ∧ w.heap.size ≤ bm) := hm1; clear hm1)
    | (go_at_call 13; (with_reducible refine (HR.out _).mono ?_); rintro e w2 ⟨br, gr, cr, Q, rfl, hr2⟩; have HF : Hid (lsts Q = L ∧ RefAt w2 br gr cr Q ∧ Below w1.heap.size w1 w2 ∧ w1.heap.size ≤ br) := hr2; clear hr2)
    | (go_at_call 14; fail))
  have HSt : Hid (St w bm gm cm br gr cr Q w2) := by
    obtain ⟨hq, f1, f2, f3⟩ := HF.out
    obtain ⟨m1, m2, m3⟩ := HM.out
    have hg := HG.out
    subst hq
    exact st_start HW.out hg m1 m2 m3 f1 f2 f3
  clear HP HR HM HF HG HW
  have hsm := HSt.out.good.small
  have hbx : ban.length ≤ maxLen := by rw [← HMn.out]; unfold maxLen; omega
  obtain ⟨l, z, hlz⟩ : ∃ l z, findZ (lsts Q).length (Pure.wid (lsts Q)) (lsts Q).flatten fr to_ ban bud = (l, z) := ⟨_, _, rfl⟩
  obtain ⟨l2, z2, hlz2⟩ : ∃ l z, findZ (lsts Q).length (Pure.wid (lsts Q)) (lsts Q).flatten fr to_ ban 5000 = (l, z) := ⟨_, _, rfl⟩
  obtain ⟨n, hn⟩ : ∃ n, l.length = n := ⟨_, rfl⟩
  obtain ⟨n2, hn2⟩ : ∃ n, l2.length = n := ⟨_, rfl⟩
  have hd := finds_dist (R := (lsts Q).length) (C := Pure.wid (lsts Q)) (ban := ban) (fr := fr) (to_ := to_) hsm
  rw [hlz2] at hd
  simp only [hn2] at hd
  have hnl : n ≤ 1024 := by
    have := finds_len (R := (lsts Q).length) (C := Pure.wid (lsts Q)) (ban := ban) (fr := fr) (to_ := to_) (bud := bud) hsm
    rw [hlz] at this
    simpa [hn] using this
  have hnl2 : n2 ≤ 1024 := by
    have := finds_len (R := (lsts Q).length) (C := Pure.wid (lsts Q)) (ban := ban) (fr := fr) (to_ := to_) (bud := 5000) hsm
    rw [hlz2] at this
    simpa [hn2] using this
  obtain ⟨k, zl, hkz⟩ : ∃ k z, looksZ (lsts Q).length (Pure.wid (lsts Q)) (lsts Q).flatten fr to_ ban = (k, z) := ⟨_, _, rfl⟩
  have HTwo : Hid (z2 = 2 → k = 0 ∧ zl = 2) := fun e => by
    have := finds_two (R := (lsts Q).length) (C := Pure.wid (lsts Q)) (ban := ban) (fr := fr) (to_ := to_) hsm (by rw [hlz2]; exact e)
    rw [hkz] at this
    exact ⟨(Prod.mk.inj this).1, (Prod.mk.inj this).2⟩
  have HNot : Hid (z2 ≠ 2 → zl = 0 ∧ ∀ W, St w bm gm cm br gr cr Q W → Calls Tryd.prog 19 #[.pointer (some ⟨br, 0, none⟩), .int .i64 fr, .int .i64 to_, .slice B m cb] W fun e w' => e = .returned (.int .i64 k) ∧ Below w.heap.size w w') := fun e => by
    obtain ⟨F, T, rfl, rfl, h3, h4, h5⟩ := finds_not (R := (lsts Q).length) (C := Pure.wid (lsts Q)) (ban := ban) (fr := fr) (to_ := to_) (by rw [hlz2]; exact e)
    rw [hkz] at h5
    obtain ⟨rfl, rfl⟩ := Prod.mk.inj h5
    refine ⟨rfl, fun W hW => ?_⟩
    rw [HMn.out]
    refine (looks_ref hW.rf hW.good h3 h4 (HBI.out.below hW.bl (Nat.le_refl _)) hbx).mono ?_
    rintro e w' ⟨rfl, hb⟩
    exact ⟨rfl, hW.bl.trans (hb.mono hW.bl.size)⟩
  have H1 : Hid (∀ W, St w bm gm cm br gr cr Q W → Calls Tryd.prog 14 #[.pointer (some ⟨bm, 0, none⟩), .int .i64 fr, .int .i64 to_, .slice B m cb, .int .i64 bud] W fun e w' => ∃ a c, e = .returned (.tuple #[.slice a n c, .int .i64 z]) ∧ (St w bm gm cm br gr cr Q w' ∧ LstN bm w' (.slice a n c) l ∧ W.grownBy w' (some bm))) := fun W hW => st_find hW HBI.out HMn.out.symm hbx hlz hn
  have H2 : Hid (∀ W, St w bm gm cm br gr cr Q W → Calls Tryd.prog 15 #[.pointer (some ⟨br, 0, none⟩), .int .i64 fr, .int .i64 to_, .slice B m cb, .int .i64 bud] W fun e w' => ∃ a c, e = .returned (.tuple #[.slice a n c, .int .i64 z]) ∧ (St w bm gm cm br gr cr Q w' ∧ LstN bm w' (.slice a n c) l ∧ W.grownBy w' (some bm))) := fun W hW => st_rfind hW HBI.out HMn.out.symm hbx hlz hn
  have H3 : Hid (∀ W, St w bm gm cm br gr cr Q W → Calls Tryd.prog 16 #[.pointer (some ⟨bm, 0, none⟩), .int .i64 fr, .int .i64 to_, .slice B m cb] W fun e w' => e = .returned (.tuple #[.int .i64 ((n2 - 1 : Nat) : Int), .int .i64 z2]) ∧ (St w bm gm cm br gr cr Q w' ∧ W.grownBy w' (some bm))) := fun W hW => st_dist hW HBI.out HMn.out.symm hbx hd
  have H4 : Hid (∀ W, St w bm gm cm br gr cr Q W → Calls Tryd.prog 15 #[.pointer (some ⟨br, 0, none⟩), .int .i64 fr, .int .i64 to_, .slice B m cb, .int .i64 5000] W fun e w' => ∃ a c, e = .returned (.tuple #[.slice a n2 c, .int .i64 z2]) ∧ (St w bm gm cm br gr cr Q w' ∧ LstN bm w' (.slice a n2 c) l2 ∧ W.grownBy w' (some bm))) := fun W hW => st_rfind hW HBI.out HMn.out.symm hbx hlz2 hn2
  have H5 : Hid (∀ W, St w bm gm cm br gr cr Q W → Calls Tryd.prog 17 #[.pointer (some ⟨bm, 0, none⟩), .int .i64 fr, .int .i64 to_, .slice B m cb] W fun e w' => e = .returned (.tuple #[.int .i64 k, .int .i64 zl]) ∧ (St w bm gm cm br gr cr Q w' ∧ W.grownBy w' (some bm))) := fun W hW => st_looks hW HBI.out HMn.out.symm hbx hkz
  have H6 : Hid (∀ W va vb, (St w bm gm cm br gr cr Q W ∧ LstN bm W va l ∧ LstN bm W vb l) → Calls Tryd.prog 18 #[va, vb] W fun e w' => e = .returned (.bool true) ∧ St w bm gm cm br gr cr Q w') := fun W va vb hW => by
    refine (same_any hW.2.1.lst hW.2.2.lst (by omega)).mono ?_
    rintro e w' ⟨rfl, j, rfl⟩
    exact ⟨by simp, hW.1.drewN j⟩
  clear hlz hlz2 hn hn2 hd hkz hbx hsm HBI HMn
  refine (H1.out _ HSt.out).mono ?_
  rintro e w3 ⟨a1, c1, rfl, q3⟩
  have HQ3 := Lib.hid q3
  clear q3
  go_wp2_with fail
  refine (H2.out _ HQ3.out.1).mono ?_
  rintro e w4 ⟨a2, c2, rfl, q4⟩
  have HQ4 : Hid (St w bm gm cm br gr cr Q w4 ∧ LstN bm w4 (.slice a1 n c1) l ∧ LstN bm w4 (.slice a2 n c2) l) := ⟨q4.1, HQ3.out.2.1.grown q4.2.2, q4.2.1⟩
  clear q4 HQ3 HSt H1 H2
  go_wp2_with fail
  refine (H3.out _ HQ4.out.1).mono ?_
  rintro e w5 ⟨rfl, q5⟩
  have HQ5 : Hid (St w bm gm cm br gr cr Q w5 ∧ LstN bm w5 (.slice a1 n c1) l ∧ LstN bm w5 (.slice a2 n c2) l) := ⟨q5.1, HQ4.out.2.1.grown q5.2, HQ4.out.2.2.grown q5.2⟩
  clear q5 HQ4 H3
  go_wp2_with fail
  refine (H4.out _ HQ5.out.1).mono ?_
  rintro e w6 ⟨a3, c3, rfl, q6⟩
  have HQ6 : Hid (St w bm gm cm br gr cr Q w6 ∧ LstN bm w6 (.slice a1 n c1) l ∧ LstN bm w6 (.slice a2 n c2) l) := ⟨q6.1, HQ5.out.2.1.grown q6.2.2, HQ5.out.2.2.grown q6.2.2⟩
  clear q6 HQ5 H4
  go_wp2_with fail
  refine (H5.out _ HQ6.out.1).mono ?_
  rintro e w7 ⟨rfl, q7⟩
  have HQ7 : Hid (St w bm gm cm br gr cr Q w7 ∧ LstN bm w7 (.slice a1 n c1) l ∧ LstN bm w7 (.slice a2 n c2) l) := ⟨q7.1, HQ6.out.2.1.grown q7.2, HQ6.out.2.2.grown q7.2⟩
  clear q7 HQ6 H5
  go_wp2_with fail
  refine (H6.out _ _ _ HQ7.out).mono ?_
  rintro e w8 ⟨rfl, q8⟩
  have HQ8 := Lib.hid q8
  clear q8 HQ7 H6
  have hw1 : IntKind.i64.wrap ((n2 : Int) - 1) = (n2 : Int) - 1 := IntWalk.i64_in _ (by omega)
  obtain ⟨x, hx⟩ : ∃ x : Int, x = ((n2 - 1 : Nat) : Int) := ⟨_, rfl⟩
  rw [← hx]
  have hmx : max (0 : Int) ((n2 : Int) - 1) = x := by rw [hx]; omega
  by_cases h2 : z2 = 2
  · obtain ⟨rfl, rfl⟩ := HTwo.out h2
    subst h2
    clear HNot HTwo
    go_wp2_with fail
    try go_ret
    exact ⟨rfl, HQ8.out.bl⟩
  · obtain ⟨rfl, hL⟩ := HNot.out h2
    have HL := Lib.hid (hL w8 HQ8.out)
    have e2 : (z2 == 2) = false := by simpa using h2
    clear HNot HTwo hL
    go_wp2_with fail
    refine HL.out.mono ?_
    rintro e w9 ⟨rfl, hb9⟩
    have HF := Lib.hid hb9
    clear hb9
    go_wp2_with fail
    try go_ret
    exact ⟨rfl, HF.out⟩

theorem rf_all (s : ByteArray) (fr to_ bud : Int) (B : Option Addr) (ban : List Int) (cb : Nat) (w : World) (hw : Ways w) (hB : IntsAt w B ban) :
    Calls Tryd.prog 3 #[.string s, .int .i64 fr, .int .i64 to_, .slice B ban.length cb, .int .i64 bud] w fun e w' => e = .returned (.bool true) ∧ Below w.heap.size w w' := by
  by_cases h : 230 < s.size ∨ 100 < ban.length
  · exact rf_long s fr to_ bud B _ _ w h
  · cases hv : Pure.verdict s.data.toList with
    | bad l c => exact rf_bad s fr to_ bud B _ _ w (by omega) (by omega) hv
    | good L => exact rf_good s fr to_ bud B ban cb w hw (by omega) (by omega) hB hv
end Go.Proofs.YtkedjnhidfnlkaaDoor
