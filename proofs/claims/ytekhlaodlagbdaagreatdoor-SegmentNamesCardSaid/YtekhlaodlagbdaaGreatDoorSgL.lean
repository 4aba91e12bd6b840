/-
  segment's laws: the map's edges, lists that are the same, a text's plan, the example.
-/
import Derived.Test.YtekhlaodlagbdaaGreatDoorSgV
namespace Go.Proofs.YtekhlaodlagbdaaGreatDoor
set_option maxRecDepth 100000
set_option linter.unusedSimpArgs false
open Go Go.RowKit

set_option maxHeartbeats 1600000 in
theorem ssame_any {w : World} {u v : Value} {l m : List Nat} (hl : Lst w u l) (hm : Lst w v m) (hn : l.length ≤ 100000) :
    Calls Tryz.prog 20 #[u, v] w fun e w' => e = .returned (.bool (decide (l = m))) ∧ ∃ n, w' = w.drewN n := by
  obtain ⟨a, c, rfl, h1⟩ := hl
  obtain ⟨a2, c2, rfl, h2⟩ := hm
  by_cases hlen : l.length = m.length
  · have H1 : Hid (∀ j, j < l.length → ∃ g, a = some ⟨g, 0, none⟩ ∧ w.cell? ⟨g, j, none⟩ = some (.int .i64 ((l.getD j 0 : Nat) : Int))) := h1
    have H2 : Hid (∀ j, j < l.length → ∃ g, a2 = some ⟨g, 0, none⟩ ∧ w.cell? ⟨g, j, none⟩ = some (.int .i64 ((m.getD j 0 : Nat) : Int))) := by rw [hlen]; exact h2
    have HX : Hid ((∀ j, j < l.length → l.getD j 0 = m.getD j 0) → l = m) := ext_getD hlen
    have HY : Hid (∀ j, l.getD j 0 ≠ m.getD j 0 → l ≠ m) := fun j h e => h (by rw [e])
    rw [← hlen]
    clear h1 h2 hlen
    generalize l.length = n at *
    generalize hd : decide (l = m) = r
    have HD : Hid (decide (l = m) = r) := hd
    clear hd
    go_enter Tryz.func20, Tryz.ntmps20
    go_wp2
    go_loopw [13] (fun i wr => ∃ k : Nat, k ≤ n ∧ i = .int .i64 k ∧ (∀ j, j < k → l.getD j 0 = m.getD j 0) ∧ ∃ q, wr = w.drewN q) (fun i _ => n - (intOf i).toNat)
    case atStart => exact ⟨0, Nat.zero_le _, rfl, fun j hj => by omega, 0, rfl⟩
    case round =>
      obtain ⟨k, hk, rfl, hne, q, rfl⟩ := hrel
      have HN : Hid (∀ j, j < k → l.getD j 0 = m.getD j 0) := hne
      clear hne
      by_cases hlt : k < n
      · obtain ⟨g, rfl, hck⟩ := H1.out k hlt
        obtain ⟨g2, rfl, hck2⟩ := H2.out k hlt
        have hq1 : (w.drewN q).cell? ⟨g, k, none⟩ = some (.int .i64 ((l.getD k 0 : Nat) : Int)) := hck
        have hq2 : (w.drewN q).cell? ⟨g2, k, none⟩ = some (.int .i64 ((m.getD k 0 : Nat) : Int)) := hck2
        have HS : Hid (l.getD k 0 = m.getD k 0 → ∀ j, j < k + 1 → l.getD j 0 = m.getD j 0) := by
          intro h j hj
          by_cases e : j = k
          · rw [e]; exact h
          · exact HN.out j (by omega)
        have HY2 : Hid (l.getD k 0 ≠ m.getD k 0 → l ≠ m) := HY.out k
        have HX1 : Hid (∀ r, ∃ x, (w.drewN q).drewN r = w.drewN x) := fun r => ⟨q + r, by rw [World.drewN_drewN]⟩
        have hlt' : (k : Int) < (n : Int) := by omega
        have hk0 : (0 : Int) ≤ (k : Int) := by omega
        clear hck hck2
        generalize l.getD k 0 = x at hq1 HS HY2
        generalize m.getD k 0 = y at hq2 HS HY2
        generalize w.drewN q = w1 at *
        by_cases hxy : x = y
        · have hb : ((x : Int) != (y : Int)) = false := by simp [hxy]
          have Hxy : Hid (x = y) := hxy
          clear hxy
          go_wp2
          go_region
          go_wp2
          go_roundw
          case rel => exact ⟨k + 1, by omega, by go_num, HS.out Hxy.out, HX1.out _⟩
          case measure => simp [intOf]; omega
        · have hb : ((x : Int) != (y : Int)) = true := by simp; omega
          have Hxy : Hid (x ≠ y) := hxy
          clear hxy
          go_wp2
          go_region
          go_wp2
          go_ret
          have hr : r = false := by rw [← HD.out, decide_eq_false_iff_not]; exact HY2.out Hxy.out
          exact ⟨by rw [hr]; rfl, HX1.out _⟩
      · obtain rfl : k = n := by omega
        have hr : Hid (r = true) := by show _ = _; rw [← HD.out, decide_eq_true_eq]; exact HX.out HN.out
        go_wp2
        go_ret
        exact ⟨by rw [hr.out]; rfl, q, rfl⟩
  · have hdf : decide (l = m) = false := by rw [decide_eq_false_iff_not]; intro e; exact hlen (by rw [e])
    rw [hdf]
    have hne : ((l.length : Int) != (m.length : Int)) = true := by rw [bne_iff_ne]; omega
    clear h1 h2 hdf
    generalize l.length = n at *
    generalize m.length = n2 at *
    go_enter Tryz.func20, Tryz.ntmps20
    go_wp2
    go_ret
    exact ⟨rfl, 0, rfl⟩

set_option maxHeartbeats 800000 in
theorem edge_d {b g cap R C : Nat} {ms : List UInt8} {w : World} (i x : Int) (h : EM b g cap R C ms w) (hd : DoneC b w) :
    Calls Tryz.prog 35 #[.pointer (some ⟨b, 0, none⟩), .int .i64 i, .int .i64 x] w fun e w' => e = .returned (.bool ((nextZ R C ms i).any (fun u => (u : Int) == x))) ∧ w = w' := by
  have hc2 := h.c2
  have hlen := h.len
  by_cases hi : 0 ≤ i ∧ i < (ms.length : Int)
  · obtain ⟨k, rfl⟩ := Int.eq_ofNat_of_zero_le hi.1
    have hk : k < ms.length := by omega
    have hl : nextZ R C ms (k : Int) = outs R C ms k := by unfold nextZ; rw [if_pos hi]; rfl
    rw [hl]
    have ho := outs_len R C ms k
    have hb : (decide (0 ≤ (k : Int)) && decide ((k : Int) < (ms.length : Int))) = true := by simp [hk]
    have HD : Hid (Calls Tryz.prog 73 #[.pointer (some ⟨b, 3, none⟩), .func (.func 74) #[.pointer (some ⟨b, 0, none⟩)] #[]] w fun e w' => e = .returned (.tuple #[]) ∧ EM b g cap R C ms w' ∧ Done b R C ms w' ∧ w.grownBy w' (some b) ∧ (Done b R C ms w → w' = w)) := do_any h
    have HN : Hid (∀ w', Done b R C ms w' → ∃ B gn v, w'.cell? ⟨b, 6, none⟩ = some (.slice (some ⟨gn, 0, none⟩) ms.length ms.length) ∧ w'.cell? ⟨gn, k, none⟩ = some v ∧ w'.ownsRow B 3 1 v (outs R C ms k).length ((outs R C ms k).map natV)) := fun w' hd => hd.next h.hC hk
    have HC : Hid (∀ w' B v, w'.ownsRow B 3 1 v (outs R C ms k).length ((outs R C ms k).map natV) → Calls Tryz.prog 75 #[v, .int .i64 x] w' fun e w'' => e = .returned (.bool ((outs R C ms k).any (fun u => (u : Int) == x))) ∧ w' = w'') := fun w' B v ho' => contains_any ho' x (by omega)
    have hki : (k : Int) < (ms.length : Int) := by omega
    have hk0 : 0 ≤ (k : Int) := by omega
    have HDD := Lib.hid (h.done_of hd)
    clear h hl hi hd
    generalize (outs R C ms k).any (fun u => (u : Int) == x) = r at HC ⊢
    go_enter Tryz.func35, Tryz.ntmps35
    go_wp2_with (first
      | (go_at_call 72; refine (has_any _ _ _ _ _ _ hc2).mono ?_; rintro e w' ⟨rfl, rfl⟩; rw [hb])
      | (go_at_call 73; (with_reducible refine HD.out.mono ?_); rintro e w1 ⟨rfl, hE, hDn, hg, hsm⟩; obtain rfl := hsm HDD.out; obtain ⟨B, gn, v, c6, ck, hown⟩ := HN.out _ hDn; clear hE hDn hg hsm)
      | (go_at_call 75; (with_reducible refine (HC.out _ _ _ hown).mono ?_); rintro e w2 ⟨rfl, rfl⟩))
    go_ret
    exact ⟨rfl, rfl⟩
  · have hl : nextZ R C ms i = [] := by unfold nextZ; rw [if_neg hi]
    rw [hl]
    have hb : (decide (0 ≤ i) && decide (i < (ms.length : Int))) = false := by
      rw [Bool.eq_false_iff]; intro e; apply hi; simpa using e
    clear h hl hi hd
    go_enter Tryz.func35, Tryz.ntmps35
    go_wp2_with (go_at_call 72; refine (has_any _ _ _ _ _ _ hc2).mono ?_; rintro e w' ⟨rfl, rfl⟩; rw [hb])
    go_ret
    exact ⟨rfl, rfl⟩


/-- A map that was read, and its plan; all of it new memory. -/
structure M2 (w0 : World) (bm gm cm R C : Nat) (ms : List UInt8) (p : Nat) (st : Sg.Pl) (w : World) : Prop where
  pl : PlanS bm gm cm R C ms p st w
  bl : Below w0.heap.size w0 w
theorem M2.below {w0 w w' : World} {bm gm cm R C : Nat} {ms : List UInt8} {p : Nat} {st : Sg.Pl} (h : M2 w0 bm gm cm R C ms p st w) (hb : Below w.heap.size w w') : M2 w0 bm gm cm R C ms p st w' := ⟨h.pl.still hb, h.bl.trans (hb.mono h.bl.size)⟩

theorem sget_at (l : List UInt8) {i : Nat} (h : i < l.length) : l.getD i 0 = l[i] := by simp [List.getD, h]
theorem good_frees {L : List (List UInt8)} (hG : Pure.Good L) : frees L.flatten ≠ [] := by
  intro e
  have h1 := hG.free
  unfold Pure.wall at h1
  rw [List.all_eq_false] at h1
  obtain ⟨c, hc, hne⟩ := h1
  obtain ⟨i, hi, rfl⟩ := List.mem_iff_getElem.1 hc
  have : i ∈ frees L.flatten := by
    unfold frees freeK
    rw [List.mem_filter, List.mem_range]
    refine ⟨hi, ?_⟩
    rw [sget_at _ hi]
    simpa using hne
  rw [e] at this
  simp at this
/-- What 'of' leaves of a map's text. -/
def PlanOf (w : World) (L : List (List UInt8)) (e : Ending) (w' : World) : Prop := ∃ p bm gm cm, e = .returned (.pointer (some ⟨p, 0, none⟩)) ∧ M2 w bm gm cm L.length (Pure.wid L) L.flatten p (planF L.length (Pure.wid L) L.flatten) w'
set_option maxHeartbeats 1000000 in
theorem of_good {s : ByteArray} {L : List (List UInt8)} (hv : Pure.verdict s.data.toList = .good L) (w : World) (hw : Ways w) (hs : s.size ≤ maxLen) :
    Calls Tryz.prog 32 #[.string s] w (PlanOf w L) := by
  have hG := (Pure.good_of hv).1
  have HP : Hid (Calls Tryz.prog 13 #[.string s] w fun e w' => ∃ b g cap, e = .returned (.tuple #[.pointer (some ⟨b, 0, none⟩), .int .i64 0, .int .i64 0, .int .i64 0]) ∧ M1 w b g cap L.length (Pure.wid L) L.flatten w') := by
    refine (parse_any s w (by unfold maxLen at hs; omega)).mono ?_
    rintro e w' ⟨h1, h2⟩
    rw [hv] at h2
    obtain ⟨g, cap, h3, h4⟩ := h2
    exact ⟨_, g, cap, h3, m1_start hw hG h4 h1 (Nat.le_refl _)⟩
  have HF := Lib.hid (good_frees hG)
  unfold PlanOf
  generalize Pure.wid L = C at *
  clear hG hv hw
  go_enter Tryz.func32, Tryz.ntmps32
  go_wp2_with (first
    | (go_at_call 13; (with_reducible refine HP.out.mono ?_); rintro e w1 ⟨bm, gm, cm, rfl, hm⟩; have H1 := Lib.hid hm; clear hm)
    | (go_at_call 16; (with_reducible refine (of_any H1.out.em HF.out).mono ?_); rintro e w2 ⟨p, bo, Bs, V, vc, vk, rfl, hpl, hk, _⟩; have H2 : Hid (M2 w bm gm cm L.length C L.flatten p (planF L.length C L.flatten) w2) := ⟨⟨bo, Bs, V, vc, vk, hpl⟩, (H1.out.bl.trans (hk.below (B := w.heap.size) (fun k e => by have := H1.out.lo; omega) H1.out.bl.size))⟩; clear hpl hk))
  go_ret
  exact ⟨p, bm, gm, cm, rfl, H2.out⟩
set_option maxHeartbeats 1000000 in
theorem of_bad {s : ByteArray} {l c : Nat} (hv : Pure.verdict s.data.toList = .bad l c) (w : World) (hs : s.size ≤ maxLen) :
    Calls Tryz.prog 32 #[.string s] w fun e w' => e = .returned (.pointer none) ∧ Below w.heap.size w w' := by
  have HP : Hid (Calls Tryz.prog 13 #[.string s] w fun e w' => e = .returned (.tuple #[.pointer none, .int .i64 (l : Int), .int .i64 (c : Int), .int .i64 10]) ∧ Below w.heap.size w w') := by
    refine (parse_any s w (by unfold maxLen at hs; omega)).mono ?_
    rintro e w' ⟨h1, h2⟩
    rw [hv] at h2
    exact ⟨h2, h1⟩
  clear hv
  go_enter Tryz.func32, Tryz.ntmps32
  go_wp2_with (go_at_call 13; (with_reducible refine HP.out.mono ?_); rintro e w1 ⟨rfl, hb⟩; have HB := Lib.hid hb; clear hb)
  go_ret
  exact ⟨rfl, HB.out⟩

def sringL : List (List UInt8) := [[46, 46, 46], [46, 35, 46], [46, 46, 46]]
def sringM : List UInt8 := [46, 46, 46, 46, 35, 46, 46, 46, 46]
theorem sring_verdict (s : ByteArray) (hs : s.data.toList = [46, 46, 46, 10, 46, 35, 46, 10, 46, 46, 46, 10]) : Pure.verdict s.data.toList = .good sringL := by rw [hs]; rfl
theorem sring_plan : (planF 3 3 sringM).cells = [[0, 1, 2, 5, 8, 7, 6, 3]] ∧ (planF 3 3 sringM).kinds = [3] := by decide +kernel
theorem lst_row {w : World} {B : Nat} {v : Value} {l : List Nat} (h : w.ownsRow B 3 1 v l.length (l.map natV)) : Lst w v l := by
  obtain ⟨a, c, rfl, hc⟩ := lst_of h
  exact ⟨a, c, rfl, hc⟩
theorem lst_new (w : World) (l : List Nat) {n : Nat} (hn : n = l.length) {cs : Array Value} {t : TypeId} (hc : cs = (l.map natV).toArray) : Lst (w.alloc (.cells cs t)) (.slice (some ⟨w.heap.size, 0, none⟩) n n) l := by
  subst hn hc
  refine ⟨_, _, rfl, fun j hj => ⟨_, rfl, ?_⟩⟩
  rw [blk_cell (heap_alloc_new w _)]
  simp [List.getD, hj, natV]

set_option maxHeartbeats 1000000 in
theorem salive_any (w : World) (hw : Ways w) : Calls Tryz.prog 34 #[] w fun e w' => e = .returned (.bool true) ∧ Below w.heap.size w w' := by
  have HP : Hid (∀ (s : ByteArray), s.data.toList = [46, 46, 46, 10, 46, 35, 46, 10, 46, 46, 46, 10] → Calls Tryz.prog 32 #[.string s] w fun e w' => ∃ p bm gm cm, e = .returned (.pointer (some ⟨p, 0, none⟩)) ∧ M2 w bm gm cm 3 3 sringM p (planF 3 3 sringM) w') := by
    intro s hs
    have hsz : s.size = 12 := by
      have : s.data.toList.length = 12 := by rw [hs]; rfl
      simpa using this
    exact of_good (sring_verdict s hs) w hw (by unfold maxLen; omega)
  obtain ⟨pc, pk⟩ := sring_plan
  have HL : Hid (∀ W bm gm cm p, M2 w bm gm cm 3 3 sringM p (planF 3 3 sringM) W → Calls Tryz.prog 18 #[.pointer (some ⟨p, 0, none⟩)] W fun e w' => e = .returned (.int .i64 1) ∧ W = w') := fun W bm gm cm p h => plen_any h.pl (n := 1) (by rw [pc]; rfl)
  have HK : Hid (∀ W bm gm cm p, M2 w bm gm cm 3 3 sringM p (planF 3 3 sringM) W → Calls Tryz.prog 21 #[.pointer (some ⟨p, 0, none⟩), .int .i64 0] W fun e w' => e = .returned (.int .i64 3) ∧ W = w') := fun W bm gm cm p h => pkind_any h.pl 0 (by rw [pc, pk]; rfl) (k := 3) (by unfold kindZ hasZ; rw [pc, pk]; rfl)
  have HC : Hid (∀ W bm gm cm p, M2 w bm gm cm 3 3 sringM p (planF 3 3 sringM) W → Calls Tryz.prog 19 #[.pointer (some ⟨p, 0, none⟩), .int .i64 0] W fun e w' => ∃ v, e = .returned v ∧ M2 w bm gm cm 3 3 sringM p (planF 3 3 sringM) w' ∧ Lst w' v [0, 1, 2, 5, 8, 7, 6, 3]) := fun W bm gm cm p h => by
    have e : cellsZ (planF 3 3 sringM) 0 = [0, 1, 2, 5, 8, 7, 6, 3] := by unfold cellsZ hasZ; rw [pc]; rfl
    have := pcells_any h.pl 0 (by rw [e]; decide)
    rw [e] at this
    refine this.mono ?_
    rintro e w' ⟨v, rfl, ho, hb⟩
    exact ⟨v, rfl, h.below hb, lst_row ho⟩
  have HS : Hid (∀ W v, Lst W v [0, 1, 2, 5, 8, 7, 6, 3] → Calls Tryz.prog 20 #[v, .slice (some ⟨W.heap.size, 0, none⟩) 8 8] (W.alloc (.cells #[.int .i64 0, .int .i64 1, .int .i64 2, .int .i64 5, .int .i64 8, .int .i64 7, .int .i64 6, .int .i64 3] 3)) fun e w' => e = .returned (.bool true) ∧ Below W.heap.size W w') := fun W v h => by
    have hb := (Below.refl W.heap.size W).alloc (Nat.le_refl _) (.cells #[.int .i64 0, .int .i64 1, .int .i64 2, .int .i64 5, .int .i64 8, .int .i64 7, .int .i64 6, .int .i64 3] 3)
    refine (ssame_any (h.below hb) (lst_new W [0, 1, 2, 5, 8, 7, 6, 3] rfl rfl) (by decide)).mono ?_
    rintro e w' ⟨rfl, m, rfl⟩
    exact ⟨by simp, bel_drewN hb m⟩
  clear hw pc pk
  go_enter Tryz.func34, Tryz.ntmps34
  go_wp2_with (first
    | (go_at_call 32; refine (HP.out _ (by rfl)).mono ?_; rintro e w1 ⟨p, bm, gm, cm, rfl, hm⟩; have H1 := Lib.hid hm; clear hm)
    | (go_at_call 18; (with_reducible refine (HL.out _ _ _ _ _ H1.out).mono ?_); rintro e w' ⟨rfl, rfl⟩)
    | (go_at_call 21; (with_reducible refine (HK.out _ _ _ _ _ H1.out).mono ?_); rintro e w' ⟨rfl, rfl⟩)
    | (go_at_call 19; (with_reducible refine (HC.out _ _ _ _ _ H1.out).mono ?_); rintro e w2 ⟨v, rfl, hm2, hl2⟩; have H2 := Lib.hid hm2; have HL2 := Lib.hid hl2; clear hm2 hl2)
    | (go_at_call 20; (with_reducible refine (HS.out _ _ HL2.out).mono ?_); rintro e w3 ⟨rfl, hb3⟩; have H3 := Lib.hid (H2.out.below hb3); clear hb3))
  go_ret
  exact ⟨rfl, H3.out.bl⟩
end Go.Proofs.YtekhlaodlagbdaaGreatDoor
