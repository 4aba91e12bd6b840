/-
  The law RouteAround: its walk.
-/
import Derived.Test.YtkedjnhidfnlkaaDoorQ6
import Derived.Test.YtkedjnhidfnlkaaDoorGE
namespace Go.Proofs.YtkedjnhidfnlkaaDoor
set_option maxRecDepth 100000
open Go Go.RowKit Rq

set_option maxHeartbeats 400000 in
theorem ra_long (s : ByteArray) (cell far : Int) (A B : Option Addr) (n cn m cm : Nat) (w : World) (h : 230 < s.size ∨ 100 < n ∨ 100 < m) :
    Calls Tryd.prog 4 #[.string s, .int .i64 cell, .slice B n cn, .int .i64 far, .slice A m cm] w fun e w' => e = .returned (.bool true) ∧ Below w.heap.size w w' := by
  by_cases h1 : 230 < s.size
  · clear h
    go_enter Tryd.func4, Tryd.ntmps4
    go_wp2_with fail
    go_ret
    exact ⟨rfl, Below.refl _ _⟩
  · by_cases h2 : 100 < n
    · clear h
      go_enter Tryd.func4, Tryd.ntmps4
      go_wp2_with fail
      go_ret
      exact ⟨rfl, Below.refl _ _⟩
    · have h3 : 100 < m := by omega
      clear h
      go_enter Tryd.func4, Tryd.ntmps4
      go_wp2_with fail
      go_ret
      exact ⟨rfl, Below.refl _ _⟩

set_option maxHeartbeats 1000000 in
theorem ra_bad (s : ByteArray) (cell far : Int) (A B : Option Addr) (n cn m cm : Nat) (w : World) (h1 : s.size ≤ 230) (h2 : n ≤ 100) (h3 : m ≤ 100) {l c : Nat} (hv : Pure.verdict s.data.toList = .bad l c) :
    Calls Tryd.prog 4 #[.string s, .int .i64 cell, .slice B n cn, .int .i64 far, .slice A m cm] w fun e w' => e = .returned (.bool true) ∧ Below w.heap.size w w' := by
  have HP : Hid (∀ w, Calls Tryd.prog 12 #[.string s] w fun e w' => e = .returned (.tuple #[.pointer none, .int .i64 (l : Int), .int .i64 (c : Int), .int .i64 10]) ∧ Below w.heap.size w w') := by
    intro w
    refine (parse_any s w (by omega)).mono ?_
    rintro e w' ⟨h1, h2⟩
    rw [hv] at h2
    exact ⟨h2, h1⟩
  have HR : Hid (∀ w, Calls Tryd.prog 13 #[.string s] w fun e w' => e = .returned (.tuple #[.pointer none, .int .i64 (l : Int), .int .i64 (c : Int), .int .i64 10]) ∧ Below w.heap.size w w') := by
    intro w
    refine (ref_all s w (by omega)).mono ?_
    rintro e w' ⟨h1, h2⟩
    rw [hv] at h2
    exact ⟨h2, h1⟩
  clear hv
  go_enter Tryd.func4, Tryd.ntmps4
  go_wp2_with (first
    | (go_at_call 12; (with_reducible refine (HP.out _).mono ?_); rintro e w1 ⟨rfl, hb1⟩)
    | (go_at_call 13; (with_reducible refine (HR.out _).mono ?_); rintro e w2 ⟨rfl, hb2⟩))
  go_ret
  exact ⟨rfl, hb1.trans (hb2.mono hb1.size)⟩

def wnt (b : Bool) : Int := if b then 0 else 40
theorem checkZ_wnt {R C : Nat} {ms : List UInt8} {path ban : List Int} (h : ¬ (path.length = 0 ∨ freeB ms (path.getD 0 0) = false ∨ freeB ms (path.getD (path.length - 1) 0) = false)) : checkZ R C ms path ban = wnt ((List.range (path.length - 1)).all (stepB R C ms ban path)) := by
  unfold checkZ wnt
  rw [if_neg h]
theorem checkZ_two {R C : Nat} {ms : List UInt8} {path ban : List Int} (h : path.length = 0 ∨ freeB ms (path.getD 0 0) = false ∨ freeB ms (path.getD (path.length - 1) 0) = false) : checkZ R C ms path ban = 2 := by
  unfold checkZ
  rw [if_pos h]

set_option maxHeartbeats 4000000 in
theorem ra_good (s : ByteArray) (cell far : Int) (A B : Option Addr) (ban path : List Int) (cb cap : Nat) (w : World) (hw : Ways w) (h : s.size ≤ 230) (hbn : ban.length ≤ 100) (hpn : path.length ≤ 100) (hpc : path.length ≤ cap) (hA : IntsAt w A path) (hB : IntsAt w B ban) (hfm : far ≤ 9223372036854775807) {L : List (List UInt8)} (hv : Pure.verdict s.data.toList = .good L) :
    Calls Tryd.prog 4 #[.string s, .int .i64 cell, .slice B ban.length cb, .int .i64 far, .slice A path.length cap] w fun e w' => e = .returned (.bool true) ∧ Below w.heap.size w w' := by
  have hgt := Pure.good_of hv
  have HP : Hid (∀ w, Calls Tryd.prog 12 #[.string s] w fun e w' => ∃ b g cap, e = .returned (.tuple #[.pointer (some ⟨b, 0, none⟩), .int .i64 0, .int .i64 0, .int .i64 0]) ∧ (MapAt w' b g cap L ∧ Below w.heap.size w w' ∧ w.heap.size ≤ b)) := by
    intro w
    refine (parse_any s w (by omega)).mono ?_
    rintro e w' ⟨h1, h2⟩
    rw [hv] at h2
    obtain ⟨g, cap, h3, h4⟩ := h2
    exact ⟨_, g, cap, h3, h4, h1, Nat.le_refl _⟩
  have HR : Hid (∀ w, Calls Tryd.prog 13 #[.string s] w fun e w' => ∃ b g cap Q, e = .returned (.tuple #[.pointer (some ⟨b, 0, none⟩), .int .i64 0, .int .i64 0, .int .i64 0]) ∧ (lsts Q = L ∧ RefAt w' b g cap Q ∧ Below w.heap.size w w' ∧ w.heap.size ≤ b)) := by
    intro w
    refine (ref_all s w (by omega)).mono ?_
    rintro e w' ⟨h1, h2⟩
    rw [hv] at h2
    obtain ⟨g, cap, Q, hq, h3, h4⟩ := h2
    exact ⟨_, g, cap, Q, h3, hq, h4, h1, Nat.le_refl _⟩
  have HW : Hid (Ways w) := hw
  clear hv hw
  have HG : Hid (Pure.Good L) := hgt.1
  clear hgt
  have HAI := Lib.hid hA
  have HBI := Lib.hid hB
  have HFm := Lib.hid hfm
  obtain ⟨n, hn⟩ : ∃ n, n = path.length := ⟨_, rfl⟩
  obtain ⟨m, hm⟩ : ∃ m, m = ban.length := ⟨_, rfl⟩
  have HN := Lib.hid hn
  have HMn := Lib.hid hm
  rw [← hn] at hpn hpc ⊢
  rw [← hm] at hbn ⊢
  clear hA hB hfm hn hm
  go_enter Tryd.func4, Tryd.ntmps4
  go_wp2_with (first
    | (go_at_call 12; (with_reducible refine (HP.out _).mono ?_); rintro e w1 ⟨bm, gm, cm, rfl, hm1⟩; have HM : Hid (MapAt w1 bm gm cm L ∧ Below w.heap.size w w1 ∧ w.heap.size ≤ bm) := hm1; clear hm1)
    | (go_at_call 13; (with_reducible refine (HR.out _).mono ?_); rintro e w2 ⟨br, gr, cr, Q, rfl, hr2⟩; have HF : Hid (lsts Q = L ∧ RefAt w2 br gr cr Q ∧ Below w1.heap.size w1 w2 ∧ w1.heap.size ≤ br) := hr2; clear hr2)
    | (go_at_call 20; fail))
  have HSt : Hid (St w bm gm cm br gr cr Q w2) := by
    obtain ⟨hq, f1, f2, f3⟩ := HF.out
    obtain ⟨m1, m2, m3⟩ := HM.out
    have hg := HG.out
    subst hq
    exact st_start HW.out hg m1 m2 m3 f1 f2 f3
  clear HP HR HM HF HG HW
  have HAr : Hid (∀ W, St w bm gm cm br gr cr Q W → Calls Tryd.prog 23 #[.pointer (some ⟨bm, 0, none⟩), .int .i64 cell, .slice B m cb, .int .i64 far] W fun e w' => ∃ v l, e = .returned v ∧ St w bm gm cm br gr cr Q w' ∧ Lst w' v l ∧ ArL (lsts Q).length (Pure.wid (lsts Q)) (lsts Q).flatten cell far ban l ∧ l.length ≤ 100000) := fun W hW => by
    rw [HMn.out]
    exact st_around hW HBI.out (by rw [← HMn.out]; unfold maxLen; omega) HFm.out
  have HRa : Hid (∀ W, St w bm gm cm br gr cr Q W → Calls Tryd.prog 24 #[.pointer (some ⟨br, 0, none⟩), .int .i64 cell, .slice B m cb, .int .i64 far] W fun e w' => ∃ v l, e = .returned v ∧ St w bm gm cm br gr cr Q w' ∧ Below W.heap.size W w' ∧ Lst w' v l ∧ ArL (lsts Q).length (Pure.wid (lsts Q)) (lsts Q).flatten cell far ban l) := fun W hW => by
    rw [HMn.out]
    exact st_raround hW HBI.out (by rw [← HMn.out]; unfold maxLen; omega) HFm.out
  have HSame : Hid (∀ w5 w6 v5 v6 l5 l6, St w bm gm cm br gr cr Q w6 → (Lst w5 v5 l5 ∧ ArL (lsts Q).length (Pure.wid (lsts Q)) (lsts Q).flatten cell far ban l5 ∧ l5.length ≤ 100000) → (Below w5.heap.size w5 w6 ∧ Lst w6 v6 l6 ∧ ArL (lsts Q).length (Pure.wid (lsts Q)) (lsts Q).flatten cell far ban l6) → Calls Tryd.prog 18 #[v5, v6] w6 fun e w' => e = .returned (.bool true) ∧ Below w.heap.size w w') := fun w5 w6 v5 v6 l5 l6 h6 h7 h8 => by
    refine (same_any (h7.1.below h8.1) h8.2.1 h7.2.2).mono ?_
    rintro e w' ⟨rfl, k, rfl⟩
    exact ⟨by rw [h7.2.1.one h8.2.2]; simp, bel_drewN h6.bl k⟩
  have HFr : Hid (∀ (x : Int) W, St w bm gm cm br gr cr Q W → Calls Tryd.prog 22 #[.pointer (some ⟨br, 0, none⟩), .int .i64 x] W fun e w' => e = .returned (.bool (freeB (lsts Q).flatten x)) ∧ St w bm gm cm br gr cr Q w') := fun x W hW => by
    refine (rfree_any x hW.rf hW.good).mono ?_
    rintro e w' ⟨rfl, k, rfl⟩
    exact ⟨rfl, hW.drewN k⟩
  have HPa : Hid (∀ W, St w bm gm cm br gr cr Q W → IntsAt W A path) := fun W hW => HAI.out.below hW.bl (Nat.le_refl _)
  have HBa : Hid (∀ W, St w bm gm cm br gr cr Q W → IntsAt W B ban) := fun W hW => HBI.out.below hW.bl (Nat.le_refl _)
  have HC := Lib.hid (st_check (cap := cap) (cb := cb) HSt.out HAI.out HBI.out (by rw [← HN.out]; exact hpc) (by rw [← HN.out]; unfold maxLen; omega) (by rw [← HMn.out]; unfold maxLen; omega))
  rw [← HN.out, ← HMn.out] at HC
  have HZ2 : Hid (n = 0 ∨ freeB (lsts Q).flatten (path.getD 0 0) = false ∨ freeB (lsts Q).flatten (path.getD (n - 1) 0) = false → checkZ (lsts Q).length (Pure.wid (lsts Q)) (lsts Q).flatten path ban = 2) := fun h => checkZ_two (by rw [← HN.out]; exact h)
  have HZw : Hid (¬ (n = 0 ∨ freeB (lsts Q).flatten (path.getD 0 0) = false ∨ freeB (lsts Q).flatten (path.getD (n - 1) 0) = false) → checkZ (lsts Q).length (Pure.wid (lsts Q)) (lsts Q).flatten path ban = wnt ((List.range (n - 1)).all (stepB (lsts Q).length (Pure.wid (lsts Q)) (lsts Q).flatten ban path))) := fun h => by
    rw [HN.out] at h ⊢
    exact checkZ_wnt h
  generalize checkZ (lsts Q).length (Pure.wid (lsts Q)) (lsts Q).flatten path ban = z at *
  refine HC.out.mono ?_
  rintro e w3 ⟨rfl, hs3⟩
  clear HSt HC
  have HSt := Lib.hid hs3
  clear hs3
  obtain ⟨sB, HSb, HZw2⟩ : ∃ sB : Nat → Bool, Hid (∀ i, sB i = (edgeB (Pure.wid (lsts Q)) (lsts Q).flatten (path.getD i 0) (path.getD (i + 1) 0) && !(decide (path.getD (i + 1) 0 ∈ ban)))) ∧ Hid (¬ (n = 0 ∨ freeB (lsts Q).flatten (path.getD 0 0) = false ∨ freeB (lsts Q).flatten (path.getD (n - 1) 0) = false) → z = wnt ((List.range (n - 1)).all sB)) :=
    ⟨stepB (lsts Q).length (Pure.wid (lsts Q)) (lsts Q).flatten ban path, fun i => by unfold stepB; rw [edge_eq HSt.out.good.lo (good_area HSt.out.good)], HZw.out⟩
  clear HZw
  go_wp2
  go_loopw [20, 21] (fun v u wr => ∃ i : Nat, (i = 0 ∨ i + 1 ≤ n) ∧ u = .int .i64 (i : Int) ∧ v = .int .i64 (wnt ((List.range i).all sB)) ∧ St w bm gm cm br gr cr Q wr) (fun _ u _ => n - (intOf u).toNat)
  case atStart => exact ⟨0, .inl rfl, rfl, rfl, HSt.out⟩
  case round =>
    obtain ⟨i, hi, rfl, rfl, hst⟩ := hrel
    rename World => W
    clear HSt
    have HSt := Lib.hid hst
    by_cases hlt : i + 1 < n
    · obtain ⟨a, rfl, f0⟩ := ints_at (HPa.out _ hst) (j := i) (by rw [← HN.out]; omega)
      obtain ⟨a', ea, f1⟩ := ints_at (HPa.out _ hst) (j := i + 1) (by rw [← HN.out]; omega)
      cases ea
      have f1' : W.cell? (a.add ((i : Int) + 1).toNat) = some (.int .i64 (path.getD (i + 1) 0)) := by
        rw [show ((i : Int) + 1).toNat = i + 1 by omega]; exact f1
      have i0 : (0 : Int) ≤ (i : Int) := by omega
      have i1 : (i : Int) + 1 < (n : Int) := by omega
      have i2 : (i : Int) < (n : Int) := by omega
      have i3 : (0 : Int) ≤ (i : Int) + 1 := by omega
      have hwi : IntKind.i64.wrap ((i : Int) + 1) = (i : Int) + 1 := IntWalk.i64_in _ (by omega)
      have HEd : Hid (∀ k, Calls Tryd.prog 21 #[.pointer (some ⟨br, 0, none⟩), .int .i64 (path.getD i 0), .int .i64 (path.getD (i + 1) 0)] (W.drewN k) fun e w' => e = .returned (.bool (edgeB (Pure.wid (lsts Q)) (lsts Q).flatten (path.getD i 0) (path.getD (i + 1) 0))) ∧ ∃ j, w' = (W.drewN k).drewN j) := fun k => redge_any _ _ (HSt.out.drewN k).rf HSt.out.good
      have HSi := Lib.hid (HSb.out i)
      obtain ⟨y1, hy1⟩ : ∃ y1, y1 = path.getD (i + 1) 0 := ⟨_, rfl⟩
      have HY1 := Lib.hid hy1
      rw [← hy1] at f1 f1' HEd HSi
      clear hst hy1
      generalize path.getD i 0 = y0 at *
      generalize edgeB (Pure.wid (lsts Q)) (lsts Q).flatten y0 y1 = ed at *
      go_wp2
      have wr3 : ((i : Int) + 1).toNat = i + 1 := by omega
      have ea2 : a.add (i + 1) = ⟨a.block, a.off + (i + 1), none⟩ := by simp [Addr.add]
      have f2 : W.cell? ⟨a.block, a.off + (i + 1), none⟩ = some (.int .i64 y1) := by rw [← ea2]; exact f1
      clear f1' ea2
      go_quiet ((go_at_call 21; exact Calls.quiet_of (HEd.out _)))
      have HSt2 := Lib.hid (HSt.out.drewN nq)
      obtain ⟨pre, hpre⟩ : ∃ pre, pre = (List.range i).all sB := ⟨_, rfl⟩
      have HPre : Hid ((List.range i).all sB = pre) := hpre.symm
      rw [← hpre]
      clear hpre f0 f1 f2 wr3 hwi
      cases ed with
      | true =>
        have HV : Hid (∀ k : Nat, k < m → ∀ bk : Int, ban.getD k 0 = bk → (bk = y1 → wnt (pre && true && !(decide (y1 ∈ ban.take (k + 1)))) = 40) ∧ (bk ≠ y1 → wnt (pre && true && !(decide (y1 ∈ ban.take (k + 1)))) = wnt (pre && true && !(decide (y1 ∈ ban.take k))))) := fun k hk bk hb => by
          have hkl : k < ban.length := by rw [← HMn.out]; exact hk
          have htk : ban.take (k + 1) = ban.take k ++ [bk] := by
            rw [List.take_succ_eq_append_getElem hkl, ← hb]
            simp [List.getD, hkl]
          rw [htk]
          refine ⟨fun e => by subst e; simp [wnt], fun e => ?_⟩
          have : (y1 ∈ ban.take k ++ [bk]) ↔ (y1 ∈ ban.take k) := by
            simp only [List.mem_append, List.mem_singleton]
            exact ⟨fun h => h.resolve_right (fun e' => e e'.symm), .inl⟩
          rw [decide_eq_decide.2 this]
        have HIn : Hid (wnt (pre && true && !(decide (y1 ∈ ban.take 0))) = wnt pre) := by
          show _ = _
          simp [wnt]
        have HEx : Hid (wnt ((List.range (i + 1)).all sB) = wnt (pre && true && !(decide (y1 ∈ ban.take m)))) := by
          show _ = _
          rw [List.range_succ, List.all_append, HPre.out, HMn.out, List.take_length]
          simp [HSi.out]
        clear HSt HSi HEd
        go_wp2
        go_loopw [20, 22] (fun v u wr => ∃ k : Nat, k ≤ m ∧ u = .int .i64 (k : Int) ∧ v = .int .i64 (wnt (pre && true && !(decide (y1 ∈ ban.take k)))) ∧ St w bm gm cm br gr cr Q wr) (fun _ u _ => m - (intOf u).toNat)
        case atStart => exact ⟨0, Nat.zero_le _, rfl, by rw [HIn.out], HSt2.out⟩
        case round =>
          obtain ⟨k, hk, rfl, rfl, hst⟩ := hrel
          clear HSt2 HIn
          have HSt := Lib.hid hst
          by_cases hkm : k < m
          · obtain ⟨q, rfl, fb⟩ := ints_at (HBa.out _ hst) (j := k) (by rw [← HMn.out]; exact hkm)
            obtain ⟨a', ea, fy⟩ := ints_at (HPa.out _ hst) (j := i + 1) (by rw [← HN.out]; omega)
            cases ea
            rw [← HY1.out, show a.add (i + 1) = ⟨a.block, a.off + (i + 1), none⟩ by simp [Addr.add]] at fy
            have hv := HV.out k hkm _ rfl
            generalize ban.getD k 0 = bk at *
            have k0 : (0 : Int) ≤ (k : Int) := by omega
            have k1 : (k : Int) < (m : Int) := by omega
            clear hst
            by_cases e : bk = y1
            · have e1 : (bk == y1) = true := by simp [e]
              have hv1 := Lib.hid (hv.1 e)
              clear hv e
              generalize wnt (pre && true && !(decide (y1 ∈ ban.take k))) = vv at *
              go_wp2
              go_quiet (fail)
              go_wp2
              go_roundw
              case rel => exact ⟨k + 1, by omega, by go_num, by rw [hv1.out], HSt.out.drewN _⟩
              case measure => simp [intOf]; omega
            · have e1 : (bk == y1) = false := by simp [e]
              have hv1 := Lib.hid (hv.2 e)
              clear hv e
              generalize wnt (pre && true && !(decide (y1 ∈ ban.take k))) = vv at *
              go_wp2
              go_quiet (fail)
              go_wp2
              go_roundw
              case rel => exact ⟨k + 1, by omega, by go_num, by rw [hv1.out], HSt.out.drewN _⟩
              case measure => simp [intOf]; omega
          · obtain rfl : k = m := by omega
            clear hst
            rw [← HEx.out]
            generalize hvv : wnt ((List.range (i + 1)).all sB) = vv at *
            have HVV := Lib.hid hvv
            clear hvv HV HEx
            go_wp2
            go_roundw
            case rel => exact ⟨i + 1, .inr (by omega), by go_num, by rw [HVV.out], HSt.out⟩
            case measure => simp [intOf]; omega
      | false =>
        have HV : Hid (∀ k : Nat, k < m → ∀ bk : Int, ban.getD k 0 = bk → (bk = y1 → wnt (pre && false && !(decide (y1 ∈ ban.take (k + 1)))) = 40) ∧ (bk ≠ y1 → wnt (pre && false && !(decide (y1 ∈ ban.take (k + 1)))) = wnt (pre && false && !(decide (y1 ∈ ban.take k))))) := fun k hk bk hb => by
          have hkl : k < ban.length := by rw [← HMn.out]; exact hk
          have htk : ban.take (k + 1) = ban.take k ++ [bk] := by
            rw [List.take_succ_eq_append_getElem hkl, ← hb]
            simp [List.getD, hkl]
          rw [htk]
          refine ⟨fun e => by subst e; simp [wnt], fun e => ?_⟩
          have : (y1 ∈ ban.take k ++ [bk]) ↔ (y1 ∈ ban.take k) := by
            simp only [List.mem_append, List.mem_singleton]
            exact ⟨fun h => h.resolve_right (fun e' => e e'.symm), .inl⟩
          rw [decide_eq_decide.2 this]
        have HIn : Hid (wnt (pre && false && !(decide (y1 ∈ ban.take 0))) = 40) := by
          show _ = _
          simp [wnt]
        have HEx : Hid (wnt ((List.range (i + 1)).all sB) = wnt (pre && false && !(decide (y1 ∈ ban.take m)))) := by
          show _ = _
          rw [List.range_succ, List.all_append, HPre.out, HMn.out, List.take_length]
          simp [HSi.out]
        clear HSt HSi HEd
        go_wp2
        go_loopw [20, 22] (fun v u wr => ∃ k : Nat, k ≤ m ∧ u = .int .i64 (k : Int) ∧ v = .int .i64 (wnt (pre && false && !(decide (y1 ∈ ban.take k)))) ∧ St w bm gm cm br gr cr Q wr) (fun _ u _ => m - (intOf u).toNat)
        case atStart => exact ⟨0, Nat.zero_le _, rfl, by rw [HIn.out], HSt2.out⟩
        case round =>
          obtain ⟨k, hk, rfl, rfl, hst⟩ := hrel
          clear HSt2 HIn
          have HSt := Lib.hid hst
          by_cases hkm : k < m
          · obtain ⟨q, rfl, fb⟩ := ints_at (HBa.out _ hst) (j := k) (by rw [← HMn.out]; exact hkm)
            obtain ⟨a', ea, fy⟩ := ints_at (HPa.out _ hst) (j := i + 1) (by rw [← HN.out]; omega)
            cases ea
            rw [← HY1.out, show a.add (i + 1) = ⟨a.block, a.off + (i + 1), none⟩ by simp [Addr.add]] at fy
            have hv := HV.out k hkm _ rfl
            generalize ban.getD k 0 = bk at *
            have k0 : (0 : Int) ≤ (k : Int) := by omega
            have k1 : (k : Int) < (m : Int) := by omega
            clear hst
            by_cases e : bk = y1
            · have e1 : (bk == y1) = true := by simp [e]
              have hv1 := Lib.hid (hv.1 e)
              clear hv e
              generalize wnt (pre && false && !(decide (y1 ∈ ban.take k))) = vv at *
              go_wp2
              go_quiet (fail)
              go_wp2
              go_roundw
              case rel => exact ⟨k + 1, by omega, by go_num, by rw [hv1.out], HSt.out.drewN _⟩
              case measure => simp [intOf]; omega
            · have e1 : (bk == y1) = false := by simp [e]
              have hv1 := Lib.hid (hv.2 e)
              clear hv e
              generalize wnt (pre && false && !(decide (y1 ∈ ban.take k))) = vv at *
              go_wp2
              go_quiet (fail)
              go_wp2
              go_roundw
              case rel => exact ⟨k + 1, by omega, by go_num, by rw [hv1.out], HSt.out.drewN _⟩
              case measure => simp [intOf]; omega
          · obtain rfl : k = m := by omega
            clear hst
            rw [← HEx.out]
            generalize hvv : wnt ((List.range (i + 1)).all sB) = vv at *
            have HVV := Lib.hid hvv
            clear hvv HV HEx
            go_wp2
            go_roundw
            case rel => exact ⟨i + 1, .inr (by omega), by go_num, by rw [HVV.out], HSt.out⟩
            case measure => simp [intOf]; omega
    · have hend : i = n - 1 := by omega
      subst hend
      clear hst hlt
      by_cases h0 : n = 0
      · have hz := HZ2.out (.inl h0)
        subst hz
        subst h0
        clear HZ2 HZw2 HSb
        go_wp2_with (first
          | (go_at_call 23; (with_reducible refine (HAr.out _ HSt.out).mono ?_); rintro e w5 ⟨v5, l5, rfl, hs5, hl5⟩; have HS5 := Lib.hid hs5; have HL5 := Lib.hid hl5; clear hs5 hl5)
          | (go_at_call 24; (with_reducible refine (HRa.out _ HS5.out).mono ?_); rintro e w6 ⟨v6, l6, rfl, hs6, hl6⟩; have HS6 := Lib.hid hs6; have HL6 := Lib.hid hl6; clear hs6 hl6)
          | (go_at_call 18; (with_reducible refine (HSame.out _ _ _ _ _ _ HS6.out HL5.out HL6.out).mono ?_); rintro e w7 ⟨rfl, hb7⟩; have HB7 := Lib.hid hb7; clear hb7)
          | (go_at_call 22; (with_reducible refine (HF0.out _ HSt.out).mono ?_); rintro e w4 ⟨rfl, hs4⟩; clear HSt; have HSt := Lib.hid hs4; clear hs4)
          | (go_at_call 22; (with_reducible refine (HF1.out _ HSt.out).mono ?_); rintro e w4 ⟨rfl, hs4⟩; clear HSt; have HSt := Lib.hid hs4; clear hs4))
        go_ret
        exact ⟨rfl, HB7.out⟩
      · obtain ⟨a, rfl, f0⟩ := ints_at (HPa.out _ HSt.out) (j := 0) (by rw [← HN.out]; omega)
        obtain ⟨a', ea, f1⟩ := ints_at (HPa.out _ HSt.out) (j := n - 1) (by rw [← HN.out]; omega)
        cases ea
        have f0' : W.cell? a = some (.int .i64 (path.getD 0 0)) := by rw [← f0, Addr.add_zero']
        have e1 : ((n : Int) - 1).toNat = n - 1 := by omega
        have f1' : W.cell? (a.add ((n : Int) - 1).toNat) = some (.int .i64 (path.getD (n - 1) 0)) := by rw [e1]; exact f1
        have n0 : (0 : Int) ≤ (n : Int) - 1 := by omega
        have n1 : (n : Int) - 1 < (n : Int) := by omega
        have n3 : (n == 0) = false := by simpa using h0
        have n4 : decide (n = 0) = false := decide_eq_false h0
        have n5 : ¬ n = 0 := h0
        have HF0 : Hid (∀ V, St w bm gm cm br gr cr Q V → Calls Tryd.prog 22 #[.pointer (some ⟨br, 0, none⟩), .int .i64 (path.getD 0 0)] V fun e w' => e = .returned (.bool (freeB (lsts Q).flatten (path.getD 0 0))) ∧ St w bm gm cm br gr cr Q w' ∧ (∀ x y, V.cell? x = some y → w'.cell? x = some y)) := fun V hV => by
          refine (rfree_any _ hV.rf hV.good).mono ?_
          rintro e w' ⟨rfl, k, rfl⟩
          exact ⟨rfl, hV.drewN k, fun x y h => h⟩
        have HF1 : Hid (∀ V, St w bm gm cm br gr cr Q V → Calls Tryd.prog 22 #[.pointer (some ⟨br, 0, none⟩), .int .i64 (path.getD (n - 1) 0)] V fun e w' => e = .returned (.bool (freeB (lsts Q).flatten (path.getD (n - 1) 0))) ∧ St w bm gm cm br gr cr Q w') := fun V hV => by
          refine (rfree_any _ hV.rf hV.good).mono ?_
          rintro e w' ⟨rfl, k, rfl⟩
          exact ⟨rfl, hV.drewN k⟩
        have hz2 := HZ2.out
        have hzw := HZw2.out
        clear HZ2 HZw2 HSb f0 h0 HFr
        generalize path.getD 0 0 = y0 at *
        generalize path.getD (n - 1) 0 = y1 at *
        cases hx0 : freeB (lsts Q).flatten y0 with
        | false =>
          have hz := hz2 (.inr (.inl hx0))
          subst hz
          rw [hx0] at HF0
          clear hz2 hzw hx0 HF1
          go_wp2_with (first
          | (go_at_call 23; (with_reducible refine (HAr.out _ HSt.out).mono ?_); rintro e w5 ⟨v5, l5, rfl, hs5, hl5⟩; have HS5 := Lib.hid hs5; have HL5 := Lib.hid hl5; clear hs5 hl5)
          | (go_at_call 24; (with_reducible refine (HRa.out _ HS5.out).mono ?_); rintro e w6 ⟨v6, l6, rfl, hs6, hl6⟩; have HS6 := Lib.hid hs6; have HL6 := Lib.hid hl6; clear hs6 hl6)
          | (go_at_call 18; (with_reducible refine (HSame.out _ _ _ _ _ _ HS6.out HL5.out HL6.out).mono ?_); rintro e w7 ⟨rfl, hb7⟩; have HB7 := Lib.hid hb7; clear hb7)
          | (go_at_call 22; (with_reducible refine (HF0.out _ HSt.out).mono ?_); rintro e w4 ⟨rfl, hs4, hc4⟩; have g1 := hc4 _ _ f1'; have g2 := hc4 _ _ f1; clear hc4; clear HSt; have HSt := Lib.hid hs4; clear hs4)
          | (go_at_call 22; (with_reducible refine (HF1.out _ HSt.out).mono ?_); rintro e w4 ⟨rfl, hs4⟩; clear HSt; have HSt := Lib.hid hs4; clear hs4))
          go_ret
          exact ⟨rfl, HB7.out⟩
        | true =>
          rw [hx0] at HF0
          cases hx1 : freeB (lsts Q).flatten y1 with
          | false =>
            have hz := hz2 (.inr (.inr hx1))
            subst hz
            rw [hx1] at HF1
            clear hz2 hzw hx0 hx1
            go_wp2_with (first
            | (go_at_call 23; (with_reducible refine (HAr.out _ HSt.out).mono ?_); rintro e w5 ⟨v5, l5, rfl, hs5, hl5⟩; have HS5 := Lib.hid hs5; have HL5 := Lib.hid hl5; clear hs5 hl5)
            | (go_at_call 24; (with_reducible refine (HRa.out _ HS5.out).mono ?_); rintro e w6 ⟨v6, l6, rfl, hs6, hl6⟩; have HS6 := Lib.hid hs6; have HL6 := Lib.hid hl6; clear hs6 hl6)
            | (go_at_call 18; (with_reducible refine (HSame.out _ _ _ _ _ _ HS6.out HL5.out HL6.out).mono ?_); rintro e w7 ⟨rfl, hb7⟩; have HB7 := Lib.hid hb7; clear hb7)
            | (go_at_call 22; (with_reducible refine (HF0.out _ HSt.out).mono ?_); rintro e w4 ⟨rfl, hs4, hc4⟩; have g1 := hc4 _ _ f1'; have g2 := hc4 _ _ f1; clear hc4; clear HSt; have HSt := Lib.hid hs4; clear hs4)
            | (go_at_call 22; (with_reducible refine (HF1.out _ HSt.out).mono ?_); rintro e w4 ⟨rfl, hs4⟩; clear HSt; have HSt := Lib.hid hs4; clear hs4))
            go_ret
            exact ⟨rfl, HB7.out⟩
          | true =>
            have hz := hzw (by rintro (h | h | h); exact n5 h; rw [hx0] at h; cases h; rw [hx1] at h; cases h)
            rw [← hz]
            rw [hx1] at HF1
            clear hz2 hzw hx0 hx1 hz
            go_wp2_with (first
            | (go_at_call 23; (with_reducible refine (HAr.out _ HSt.out).mono ?_); rintro e w5 ⟨v5, l5, rfl, hs5, hl5⟩; have HS5 := Lib.hid hs5; have HL5 := Lib.hid hl5; clear hs5 hl5)
            | (go_at_call 24; (with_reducible refine (HRa.out _ HS5.out).mono ?_); rintro e w6 ⟨v6, l6, rfl, hs6, hl6⟩; have HS6 := Lib.hid hs6; have HL6 := Lib.hid hl6; clear hs6 hl6)
            | (go_at_call 18; (with_reducible refine (HSame.out _ _ _ _ _ _ HS6.out HL5.out HL6.out).mono ?_); rintro e w7 ⟨rfl, hb7⟩; have HB7 := Lib.hid hb7; clear hb7)
            | (go_at_call 22; (with_reducible refine (HF0.out _ HSt.out).mono ?_); rintro e w4 ⟨rfl, hs4, hc4⟩; have g1 := hc4 _ _ f1'; have g2 := hc4 _ _ f1; clear hc4; clear HSt; have HSt := Lib.hid hs4; clear hs4)
            | (go_at_call 22; (with_reducible refine (HF1.out _ HSt.out).mono ?_); rintro e w4 ⟨rfl, hs4⟩; clear HSt; have HSt := Lib.hid hs4; clear hs4))
            go_ret
            exact ⟨rfl, HB7.out⟩

theorem ra_all (s : ByteArray) (cell far : Int) (A B : Option Addr) (ban path : List Int) (cb cap : Nat) (w : World) (hw : Ways w) (hpc : path.length ≤ cap) (hA : IntsAt w A path) (hB : IntsAt w B ban) (hfm : far ≤ 9223372036854775807) :
    Calls Tryd.prog 4 #[.string s, .int .i64 cell, .slice B ban.length cb, .int .i64 far, .slice A path.length cap] w fun e w' => e = .returned (.bool true) ∧ Below w.heap.size w w' := by
  by_cases h : 230 < s.size ∨ 100 < ban.length ∨ 100 < path.length
  · exact ra_long s cell far A B _ _ _ _ w h
  · cases hv : Pure.verdict s.data.toList with
    | bad l c => exact ra_bad s cell far A B _ _ _ _ w (by omega) (by omega) (by omega) hv
    | good L => exact ra_good s cell far A B ban path cb cap w hw (by omega) (by omega) (by omega) hpc hA hB hfm hv
end Go.Proofs.YtkedjnhidfnlkaaDoor
