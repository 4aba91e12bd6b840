/- Joined texts: SgYm, SgDo, SgNz, SgNq, SgNm, SnLaid. -/
import Derived.Test.YtekhlaodlagbdaaGreatDoorSgYs
import Derived.Test.YtekhlaodlagbdaaGreatDoorSgK
import Derived.Test.YtekhlaodlagbdaaGreatDoorSgL
import Derived.Test.YtekhlaodlagbdaaGreatDoorSgN
import Derived.Test.YtekhlaodlagbdaaGreatDoorSides
import Derived.Laws.StructEq
import Derived.ProofKit
import Derived.LaidMore
import Derived.OpenShut
import Derived.Stop.Joined

/-
  Next and Doors of a plan that was made, of whatever number.
-/
namespace Go.Proofs.YtekhlaodlagbdaaGreatDoor
set_option maxRecDepth 100000
set_option linter.unusedSimpArgs false
open Go Go.RowKit

/-- The segments to which doors go from that number. -/
def nxtZ (R C : Nat) (ms : List UInt8) (s : Int) : List Nat := if hasZ (planF R C ms) s = true then nxF R C ms (planF R C ms) s.toNat else []
/-- The doors from that number to that one, in order. -/
def dosZ (R C : Nat) (ms : List UInt8) (s t : Int) : List (Nat × Nat) := if hasZ (planF R C ms) s = true then srtD ((dorF R C ms (planF R C ms) s.toNat).filter fun d => (planF R C ms).of.getD d.2 0 == t) else []

section
variable {w W : World} {bm gm cm R C p : Nat} {ms : List UInt8}
theorem seg_facts (ho : SgOk R C ms) {i : Nat} (hi : i < (planF R C ms).cells.length) : 0 < ((planF R C ms).cells.getD i []).length ∧ ∀ a ∈ (planF R C ms).cells.getD i [], a < ms.length := by
  obtain ⟨hI, _⟩ := plan_ok (ms := ms) ho.hC ho.hN
  obtain ⟨a, ha, _, e, _⟩ := hI.ord i hi
  have := Sg.ord_list (jnF_jn (ms := ms) ho.hC ho.hN) ha
  rw [e] at this
  exact ⟨this.1, this.2.2.1⟩
theorem mpl_next (ho : SgOk R C ms) (h : M2 w bm gm cm R C ms p (planF R C ms) W) (s : Int) :
    Calls Tryz.prog 25 #[.pointer (some ⟨p, 0, none⟩), .int .i64 s] W fun e w' => ∃ v, e = .returned v ∧ M2 w bm gm cm R C ms p (planF R C ms) w' ∧ Lst w' v (nxtZ R C ms s) ∧ Below W.heap.size W w' := by
  cases hb : hasZ (planF R C ms) s with
  | false =>
    have e : nxtZ R C ms s = [] := by unfold nxtZ; rw [hb, if_neg (by simp)]
    rw [e]
    refine (pnext_no (fun V hV => phas_any (h.pl.still hV) s hb)).mono ?_
    rintro e w' ⟨v, rfl, hr, hbl⟩
    exact ⟨v, rfl, h.below hbl, lst_row hr, hbl⟩
  | true =>
    have hs : 0 ≤ s ∧ s < ((planF R C ms).cells.length : Int) := by unfold hasZ at hb; simpa using hb
    obtain ⟨k, rfl⟩ := Int.eq_ofNat_of_zero_le hs.1
    have hk : k < (planF R C ms).cells.length := by omega
    have e : nxtZ R C ms (k : Int) = nxF R C ms (planF R C ms) k := by unfold nxtZ; rw [if_pos hb, Int.toNat_natCast]
    rw [e]
    obtain ⟨h1, h2⟩ := seg_facts ho hk
    refine (pnext_any h.pl ho.hN hk h1 (seg_len ho hk) h2 (fun d hd => ?_)).mono ?_
    · obtain ⟨_, a, b, c, _⟩ := door_seg ho.hC ho.hN hd
      exact ⟨a, b, c⟩
    · rintro e w' ⟨v, rfl, hr, hbl⟩
      exact ⟨v, rfl, h.below hbl, lst_row hr, hbl⟩
theorem mpl_doors (ho : SgOk R C ms) (h : M2 w bm gm cm R C ms p (planF R C ms) W) (s t : Int) :
    Calls Tryz.prog 26 #[.pointer (some ⟨p, 0, none⟩), .int .i64 s, .int .i64 t] W fun e w' => ∃ v, e = .returned v ∧ M2 w bm gm cm R C ms p (planF R C ms) w' ∧ w'.ownsRow W.heap.size 22 2 v (dosZ R C ms s t).length ((dosZ R C ms s t).flatMap prV) ∧ Below W.heap.size W w' := by
  cases hb : hasZ (planF R C ms) s with
  | false =>
    have e : dosZ R C ms s t = [] := by unfold dosZ; rw [hb, if_neg (by simp)]
    rw [e]
    refine (pdoors_no t (fun V hV => phas_any (h.pl.still hV) s hb) (sortD_any _)).mono ?_
    rintro e w' ⟨v, rfl, hr, hbl⟩
    exact ⟨v, rfl, h.below hbl, hr, hbl⟩
  | true =>
    have hs : 0 ≤ s ∧ s < ((planF R C ms).cells.length : Int) := by unfold hasZ at hb; simpa using hb
    obtain ⟨k, rfl⟩ := Int.eq_ofNat_of_zero_le hs.1
    have hk : k < (planF R C ms).cells.length := by omega
    have e : dosZ R C ms (k : Int) t = srtD ((dorF R C ms (planF R C ms) k).filter fun d => (planF R C ms).of.getD d.2 0 == t) := by unfold dosZ; rw [if_pos hb, Int.toNat_natCast]
    rw [e]
    obtain ⟨h1, h2⟩ := seg_facts ho hk
    refine (pdoors_of h.pl ho.hN hk h1 (seg_len ho hk) h2 t (fun d hd => ?_) (sortD_any _)).mono ?_
    · exact (door_seg ho.hC ho.hN hd).2.1
    · rintro e w' ⟨v, rfl, hr, hbl⟩
      exact ⟨v, rfl, h.below hbl, hr, hbl⟩
end
end Go.Proofs.YtekhlaodlagbdaaGreatDoor

/-
  segment's laws: lists of doors that are the same.
-/
namespace Go.Proofs.YtekhlaodlagbdaaGreatDoor
set_option maxRecDepth 100000
set_option linter.unusedSimpArgs false
open Go Go.RowKit

theorem und2p : Tryz.prog.underlying 22 = some (.array 2 3) := by kernel_rfl
theorem size2i (w : World) : (sizeOf 3).run Tryz.prog w = .ok 1 w := by kernel_rfl
theorem eqD2 (D : Nat) (hD : ∀ (a b : Int) (w : World), (Op.equalIn D 3 (.int .i64 a) (.int .i64 b)).run Tryz.prog w = .ok (a == b) w) (f0 f1 g0 g1 : Int) (w : World) :
    (Op.equalIn (D + 1) 22 (.agg #[.int .i64 f0, .int .i64 f1]) (.agg #[.int .i64 g0, .int .i64 g1])).run Tryz.prog w = .ok (f0 == g0 && f1 == g1) w := by
  have hp : ∀ (xs : Array Value) (i : Nat) (a : Int) (w : World), xs[i]? = some (.int .i64 a) → (part 3 xs i).run Tryz.prog w = .ok (.int .i64 a) w := by
    intro xs i a w h
    have ha : (isAgg 3).run Tryz.prog w = .ok false w := by kernel_rfl
    simp only [part, Sem.run_bind, ha, Result.andThen_ok, Bool.false_eq_true, if_false, h, Sem.run_pure]
  simp only [Op.equalIn, Sem.run_bind, run_underlying und2p, Result.andThen_ok, size2i]
  obtain ⟨XS, hX⟩ : ∃ XS : Array Value, XS = #[.int .i64 f0, .int .i64 f1] := ⟨_, rfl⟩
  obtain ⟨YS, hY⟩ : ∃ YS : Array Value, YS = #[.int .i64 g0, .int .i64 g1] := ⟨_, rfl⟩
  rw [← hX, ← hY]
  have p0 : ∀ w, (part 3 XS (0 * 1)).run Tryz.prog w = .ok (.int .i64 f0) w := fun w => hp XS _ _ w (by rw [hX]; rfl)
  have q0 : ∀ w, (part 3 YS (0 * 1)).run Tryz.prog w = .ok (.int .i64 g0) w := fun w => hp YS _ _ w (by rw [hY]; rfl)
  have p1 : ∀ w, (part 3 XS (1 * 1)).run Tryz.prog w = .ok (.int .i64 f1) w := fun w => hp XS _ _ w (by rw [hX]; rfl)
  have q1 : ∀ w, (part 3 YS (1 * 1)).run Tryz.prog w = .ok (.int .i64 g1) w := fun w => hp YS _ _ w (by rw [hY]; rfl)
  clear hX hY hp
  simp only [Std.Legacy.Range.forIn_eq_forIn_range', Std.Legacy.Range.size, Nat.sub_zero, Nat.add_sub_cancel, Nat.div_one, List.range'_succ, List.range'_zero, List.forIn_cons, List.forIn_nil, Nat.zero_add, Nat.reduceAdd]
  cases e0 : (f0 == g0)
  · simp only [Sem.run_bind, p0, q0, Result.andThen_ok, hD, e0, Bool.not_false, if_true, Sem.run_pure, Bool.false_and, Bool.and_false, Bool.true_and]
  simp only [Sem.run_bind, p0, q0, Result.andThen_ok, hD, e0, Bool.not_true, Bool.false_eq_true, if_false, Sem.run_pure, Bool.true_and]
  cases e1 : (f1 == g1)
  · simp only [Sem.run_bind, p1, q1, Result.andThen_ok, hD, e1, Bool.not_false, if_true, Sem.run_pure, Bool.false_and, Bool.and_false, Bool.true_and]
  simp only [Sem.run_bind, p1, q1, Result.andThen_ok, hD, e1, Bool.not_true, Bool.false_eq_true, if_false, Sem.run_pure, Bool.true_and]
theorem eq2p (f0 f1 g0 g1 : Int) (w : World) :
    (Op.equalIn 10000 22 (.agg #[.int .i64 f0, .int .i64 f1]) (.agg #[.int .i64 g0, .int .i64 g1])).run Tryz.prog w = .ok (f0 == g0 && f1 == g1) w := by
  have hi : Tryz.prog.underlying 3 = some (.int .i64) := by kernel_rfl
  exact eqD2 9999 (fun a b w => run_equalIn_int w 9998 _ _ _ a b hi) _ _ _ _ w

/-- A list of doors in memory. -/
def DLst (w : World) (u : Value) (l : List (Nat × Nat)) : Prop := ∃ a c, u = .slice a l.length c ∧ ∀ j, j < l.length → ∃ g, a = some ⟨g, 0, none⟩ ∧ w.cell? ⟨g, j * 2, none⟩ = some (.int .i64 (((l.getD j (0, 0)).1 : Nat) : Int)) ∧ w.cell? ⟨g, j * 2 + 1, none⟩ = some (.int .i64 (((l.getD j (0, 0)).2 : Nat) : Int))
theorem ext_getDp {l m : List (Nat × Nat)} (h : l.length = m.length) (he : ∀ j, j < l.length → l.getD j (0, 0) = m.getD j (0, 0)) : l = m := by
  apply List.ext_getElem h
  intro j h1 h2
  have := he j h1
  simpa [List.getD, h1, h2] using this

set_option maxHeartbeats 1600000 in
theorem sdoors_any {w : World} {u v : Value} {l m : List (Nat × Nat)} (hl : DLst w u l) (hm : DLst w v m) (hn : l.length ≤ 100000) :
    Calls Tryz.prog 28 #[u, v] w fun e w' => e = .returned (.bool (decide (l = m))) ∧ ∃ n, w' = w.drewN n := by
  obtain ⟨a, c, rfl, h1⟩ := hl
  obtain ⟨a2, c2, rfl, h2⟩ := hm
  by_cases hlen : l.length = m.length
  · have H1 := Lib.hid h1
    have H2 : Hid (∀ j, j < l.length → ∃ g, a2 = some ⟨g, 0, none⟩ ∧ w.cell? ⟨g, j * 2, none⟩ = some (.int .i64 (((m.getD j (0, 0)).1 : Nat) : Int)) ∧ w.cell? ⟨g, j * 2 + 1, none⟩ = some (.int .i64 (((m.getD j (0, 0)).2 : Nat) : Int))) := by rw [hlen]; exact h2
    have HX : Hid ((∀ j, j < l.length → l.getD j (0, 0) = m.getD j (0, 0)) → l = m) := ext_getDp hlen
    have HY : Hid (∀ j, l.getD j (0, 0) ≠ m.getD j (0, 0) → l ≠ m) := fun j h e => h (by rw [e])
    rw [← hlen]
    clear h1 h2 hlen
    generalize l.length = n at *
    generalize hd : decide (l = m) = r
    have HD : Hid (decide (l = m) = r) := hd
    clear hd
    go_enter Tryz.func28, Tryz.ntmps28
    go_wp2
    go_loopw [13] (fun i wr => ∃ k : Nat, k ≤ n ∧ i = .int .i64 k ∧ (∀ j, j < k → l.getD j (0, 0) = m.getD j (0, 0)) ∧ ∃ q, wr = w.drewN q) (fun i _ => n - (intOf i).toNat)
    case atStart => exact ⟨0, Nat.zero_le _, rfl, fun j hj => by omega, 0, rfl⟩
    case round =>
      obtain ⟨k, hk, rfl, hne, q, rfl⟩ := hrel
      have HN := Lib.hid hne
      clear hne
      by_cases hlt : k < n
      · obtain ⟨g, rfl, hck, hck'⟩ := H1.out k hlt
        obtain ⟨g2, rfl, hdk, hdk'⟩ := H2.out k hlt
        have hq1 : (w.drewN q).cell? ⟨g, k * 2, none⟩ = some (.int .i64 (((l.getD k (0, 0)).1 : Nat) : Int)) := hck
        have hq1' : (w.drewN q).cell? ⟨g, k * 2 + 1, none⟩ = some (.int .i64 (((l.getD k (0, 0)).2 : Nat) : Int)) := hck'
        have hq2 : (w.drewN q).cell? ⟨g2, k * 2, none⟩ = some (.int .i64 (((m.getD k (0, 0)).1 : Nat) : Int)) := hdk
        have hq2' : (w.drewN q).cell? ⟨g2, k * 2 + 1, none⟩ = some (.int .i64 (((m.getD k (0, 0)).2 : Nat) : Int)) := hdk'
        have HS : Hid (l.getD k (0, 0) = m.getD k (0, 0) → ∀ j, j < k + 1 → l.getD j (0, 0) = m.getD j (0, 0)) := by
          intro h j hj
          by_cases e : j = k
          · rw [e]; exact h
          · exact HN.out j (by omega)
        have HY2 : Hid (l.getD k (0, 0) ≠ m.getD k (0, 0) → l ≠ m) := HY.out k
        have HX1 : Hid (∀ r, ∃ x, (w.drewN q).drewN r = w.drewN x) := fun r => ⟨q + r, by rw [World.drewN_drewN]⟩
        have hlt' : (k : Int) < (n : Int) := by omega
        have hk0 : (0 : Int) ≤ (k : Int) := by omega
        clear hck hck' hdk hdk'
        generalize l.getD k (0, 0) = x at hq1 hq1' HS HY2
        generalize m.getD k (0, 0) = y at hq2 hq2' HS HY2
        generalize w.drewN q = w1 at *
        have he := eq2p (x.1 : Int) (x.2 : Int) (y.1 : Int) (y.2 : Int)
        by_cases hxy : x = y
        · have hb : ((x.1 : Int) == (y.1 : Int) && (x.2 : Int) == (y.2 : Int)) = true := by rw [hxy]; simp
          rw [hb] at he
          have Hxy : Hid (x = y) := hxy
          clear hxy hb
          generalize x.1 = x1 at *
          generalize x.2 = x2 at *
          generalize y.1 = y1 at *
          generalize y.2 = y2 at *
          go_wp2
          go_region
          go_wp2
          go_roundw
          case rel => exact ⟨k + 1, by omega, by go_num, HS.out Hxy.out, HX1.out _⟩
          case measure => simp [intOf]; omega
        · have hb : ((x.1 : Int) == (y.1 : Int) && (x.2 : Int) == (y.2 : Int)) = false := by
            cases hc : ((x.1 : Int) == (y.1 : Int) && (x.2 : Int) == (y.2 : Int)) with
            | false => rfl
            | true =>
              simp only [Bool.and_eq_true, beq_iff_eq] at hc
              exact absurd (Prod.ext (by omega) (by omega)) hxy
          rw [hb] at he
          have Hxy : Hid (x ≠ y) := hxy
          clear hxy hb
          generalize x.1 = x1 at *
          generalize x.2 = x2 at *
          generalize y.1 = y1 at *
          generalize y.2 = y2 at *
          go_wp2
          go_region
          go_wp2
          go_ret
          have hr : r = false := by rw [← HD.out, decide_eq_false_iff_not]; exact HY2.out Hxy.out
          exact ⟨by rw [hr]; rfl, HX1.out _⟩
      · obtain rfl : k = n := by omega
        have hr : Hid (r = true) := by show _ = _; rw [← HD.out, decide_eq_true_eq]; exact HX.out HN.out
        go_wp2
        go_ret
        exact ⟨by rw [hr.out]; rfl, q, rfl⟩
  · have hdf : decide (l = m) = false := by rw [decide_eq_false_iff_not]; intro e; exact hlen (by rw [e])
    rw [hdf]
    have hne : ((l.length : Int) != (m.length : Int)) = true := by rw [bne_iff_ne]; omega
    clear h1 h2 hdf
    generalize l.length = n at *
    generalize m.length = n2 at *
    go_enter Tryz.func28, Tryz.ntmps28
    go_wp2
    go_ret
    exact ⟨rfl, 0, rfl⟩
end Go.Proofs.YtekhlaodlagbdaaGreatDoor

/-
  A plan's calls on none, and on the plan that was never made.
-/
namespace Go.Proofs.YtekhlaodlagbdaaGreatDoor
set_option maxRecDepth 100000
set_option linter.unusedSimpArgs false
open Go Go.RowKit

/-- No plan: none, or one that was never made. -/
def NoPlan (w : World) (A : Option Addr) : Prop := A = none ∨ ∃ z, A = some ⟨z, 0, none⟩ ∧ w.heap[z]? = some (.cells #[.pointer none, .slice none 0 0, .slice none 0 0, .slice none 0 0] 66 (0, 0))
theorem NoPlan.below {w w' : World} {A : Option Addr} (h : NoPlan w A) (hb : Below w.heap.size w w') : NoPlan w' A := by
  rcases h with h | ⟨z, h1, h2⟩
  · exact .inl h
  · exact .inr ⟨z, h1, (hb.block z (blk_lt h2)).trans h2⟩
section
variable {w : World} {A : Option Addr}
theorem nlen (h : NoPlan w A) : Calls Tryz.prog 18 #[.pointer A] w fun e w' => e = .returned (.int .i64 0) ∧ w = w' := by
  rcases h with rfl | ⟨z, rfl, h2⟩
  · exact plen_none w
  · have c2 : w.cell? ⟨z, 2, none⟩ = some (.slice none 0 0) := by rw [blk_cell h2]; rfl
    clear h2
    go_enter Tryz.func18, Tryz.ntmps18
    go_wp2
    first | (go_ret; exact ⟨rfl, rfl⟩) | exact ⟨rfl, rfl⟩
theorem nhas (h : NoPlan w A) (s : Int) : Calls Tryz.prog 60 #[.pointer A, .int .i64 s] w fun e w' => e = .returned (.bool false) ∧ w = w' := by
  have HL := Lib.hid (nlen h)
  clear h
  by_cases h0 : 0 ≤ s
  · have H1 : Hid (decide (s < 0) = false) := decide_eq_false (by omega)
    go_enter Tryz.func60, Tryz.ntmps60
    go_wp2_with (go_at_call 18; (with_reducible refine HL.out.mono ?_); rintro e w' ⟨rfl, rfl⟩)
    go_ret
    exact ⟨by rw [H1.out]; rfl, rfl⟩
  · go_enter Tryz.func60, Tryz.ntmps60
    go_wp2_with (go_at_call 18; (with_reducible refine HL.out.mono ?_); rintro e w' ⟨rfl, rfl⟩)
    go_ret
    exact ⟨rfl, rfl⟩
theorem nseg (h : NoPlan w A) (c : Int) : Calls Tryz.prog 23 #[.pointer A, .int .i64 c] w fun e w' => e = .returned (.int .i64 (-1)) ∧ w = w' := by
  rcases h with rfl | ⟨z, rfl, h2⟩
  · go_enter Tryz.func23, Tryz.ntmps23
    go_wp2
    first | (go_ret; exact ⟨rfl, rfl⟩) | exact ⟨rfl, rfl⟩
  · have c1 : w.cell? ⟨z, 1, none⟩ = some (.slice none 0 0) := by rw [blk_cell h2]; rfl
    clear h2
    by_cases h0 : c < 0
    · go_enter Tryz.func23, Tryz.ntmps23
      go_wp2
      first | (go_ret; exact ⟨rfl, rfl⟩) | exact ⟨rfl, rfl⟩
    · have h1 : 0 ≤ c := by omega
      go_enter Tryz.func23, Tryz.ntmps23
      go_wp2
      first | (go_ret; exact ⟨rfl, rfl⟩) | exact ⟨rfl, rfl⟩
theorem ncells (h : NoPlan w A) (s : Int) : Calls Tryz.prog 19 #[.pointer A, .int .i64 s] w fun e w' => e = .returned (.slice none 0 0) ∧ w = w' := by
  have HL := Lib.hid (nhas h s)
  clear h
  go_enter Tryz.func19, Tryz.ntmps19
  go_wp2_with (go_at_call 60; (with_reducible refine HL.out.mono ?_); rintro e w' ⟨rfl, rfl⟩)
  first | (go_ret; exact ⟨rfl, rfl⟩) | exact ⟨rfl, rfl⟩
theorem nkind (h : NoPlan w A) (s : Int) : Calls Tryz.prog 21 #[.pointer A, .int .i64 s] w fun e w' => e = .returned (.int .i64 0) ∧ w = w' := by
  have HL := Lib.hid (nhas h s)
  clear h
  go_enter Tryz.func21, Tryz.ntmps21
  go_wp2_with (go_at_call 60; (with_reducible refine HL.out.mono ?_); rintro e w' ⟨rfl, rfl⟩)
  first | (go_ret; exact ⟨rfl, rfl⟩) | exact ⟨rfl, rfl⟩
theorem nnext (h : NoPlan w A) (s : Int) : Calls Tryz.prog 25 #[.pointer A, .int .i64 s] w (NxP w []) := pnext_no fun _ hW => nhas (h.below hW) s
theorem ndoors (h : NoPlan w A) (s t : Int) (hS : SortsD w.heap.size) : Calls Tryz.prog 26 #[.pointer A, .int .i64 s, .int .i64 t] w (DoP w []) := pdoors_no t (fun _ hW => nhas (h.below hW) s) hS
theorem nmap : Calls Tryz.prog 33 #[.pointer none] w fun e w' => e = .returned (.pointer none) ∧ w = w' := by
  go_enter Tryz.func33, Tryz.ntmps33
  go_wp2
  first | (go_ret; exact ⟨rfl, rfl⟩) | exact ⟨rfl, rfl⟩
theorem ninside (h : NoPlan w A) (a b : Int) : Calls Tryz.prog 30 #[.pointer A, .int .i64 a, .int .i64 b] w fun e w' => e = .returned (.int .i64 (-1)) ∧ Below w.heap.size w w' := by
  have HSa : Hid (∀ V c, Below w.heap.size w V → Calls Tryz.prog 23 #[.pointer A, .int .i64 c] V fun e w' => e = .returned (.int .i64 (-1)) ∧ w' = V) := fun V c hV => (nseg (h.below hV) c).mono fun _ _ h => ⟨h.1, h.2.symm⟩
  clear h
  have b0 : (w.alloc (.cells #[.int .i64 b] 3)).cell? ⟨w.heap.size, 0, none⟩ = some (.int .i64 b) := by rw [blk_cell (World.alloc_heap_new w _)]; rfl
  have HB : Hid (∀ n, Below w.heap.size w ((w.alloc (.cells #[.int .i64 b] 3)).drewN n)) := fun n => (((Kept.refl (fun _ => False) w).alloc _).drewN n).below (fun _ h => h.elim) (Nat.le_refl _)
  have d0 : decide ((-1 : Int) < 0) = true := by decide
  go_enter Tryz.func30, Tryz.ntmps30
  go_wp2_with fail
  generalize w.alloc (.cells #[.int .i64 b] 3) = w1 at *
  go_quiet ((go_at_call 23; with_reducible exact Calls.quiet_of_same (HSa.out _ _ (HB.out _))))
  go_wp2
  go_ret
  exact ⟨rfl, HB.out _⟩
end
end Go.Proofs.YtekhlaodlagbdaaGreatDoor

/-
  SegmentNames: closed facts of its maps.
-/
namespace Go.Proofs.YtekhlaodlagbdaaGreatDoor
set_option maxRecDepth 100000
set_option linter.unusedSimpArgs false
open Go Go.RowKit

def n1L : List (List UInt8) := [[46, 46, 46, 46, 46], [35, 35, 46, 35, 35], [35, 35, 46, 35, 35]]
def n1M : List UInt8 := [46, 46, 46, 46, 46, 35, 35, 46, 35, 35, 35, 35, 46, 35, 35]
def n2L : List (List UInt8) := [[35, 46, 35, 35], [35, 46, 35, 35], [35, 46, 46, 46]]
def n2M : List UInt8 := [35, 46, 35, 35, 35, 46, 35, 35, 35, 46, 46, 46]
def n3L : List (List UInt8) := [[62, 46, 60]]
def n3M : List UInt8 := [62, 46, 60]
def n4L : List (List UInt8) := [[46, 46], [46, 46]]
def n4M : List UInt8 := [46, 46, 46, 46]
theorem n1_plan : (planF 3 5 n1M).cells = [[0], [1], [2], [3], [4], [7], [12]] ∧ (planF 3 5 n1M).kinds = [1, 2, 1, 2, 1, 2, 1] ∧ (planF 3 5 n1M).of.getD 12 0 = 6 ∧ (planF 3 5 n1M).of.getD 5 0 = -1 := by decide +kernel
theorem n1_next : nxtZ 3 5 n1M 2 = [1, 3, 5] := by decide +kernel
theorem n1_dors : ((dorF 3 5 n1M (planF 3 5 n1M) 1).filter fun d => (planF 3 5 n1M).of.getD d.2 0 == (2 : Int)) = [(1, 2)] ∧ ((dorF 3 5 n1M (planF 3 5 n1M) 2).filter fun d => (planF 3 5 n1M).of.getD d.2 0 == (5 : Int)) = [(2, 7)] ∧ ((dorF 3 5 n1M (planF 3 5 n1M) 1).filter fun d => (planF 3 5 n1M).of.getD d.2 0 == (1 : Int)) = [] := by decide +kernel
theorem n1_has : hasZ (planF 3 5 n1M) 1 = true ∧ hasZ (planF 3 5 n1M) 2 = true := by decide +kernel
theorem srtD_one (d : Nat × Nat) : srtD [d] = [d] := by simp [srtD]
theorem srtD_nil : srtD [] = [] := by simp [srtD]
theorem n1_d12 : dosZ 3 5 n1M 1 2 = [(1, 2)] := by
  unfold dosZ
  rw [if_pos n1_has.1]
  exact (congrArg srtD n1_dors.1).trans (srtD_one _)
theorem n1_d25 : dosZ 3 5 n1M 2 5 = [(2, 7)] := by
  unfold dosZ
  rw [if_pos n1_has.2]
  exact (congrArg srtD n1_dors.2.1).trans (srtD_one _)
theorem n1_d11 : dosZ 3 5 n1M 1 1 = [] := by
  unfold dosZ
  rw [if_pos n1_has.1]
  exact (congrArg srtD n1_dors.2.2).trans srtD_nil
theorem n2_plan : (planF 3 4 n2M).cells = [[1], [5, 9, 10], [11]] ∧ (planF 3 4 n2M).of.getD 9 0 = 1 := by decide +kernel
theorem n2_ins : insZ 3 4 n2M (planF 3 4 n2M) 5 10 = 2 ∧ insZ 3 4 n2M (planF 3 4 n2M) 5 1 = -1 := by decide +kernel
theorem n3_plan : (planF 1 3 n3M).cells.length = 3 := by decide +kernel
theorem n4_plan : (planF 2 2 n4M).cells = [[0, 1, 3, 2]] := by decide +kernel
theorem n1_ok : SgOk 3 5 n1M := ⟨by decide, by decide, by decide, by decide⟩
theorem n2_ok : SgOk 3 4 n2M := ⟨by decide, by decide, by decide, by decide⟩
theorem n3_ok : SgOk 1 3 n3M := ⟨by decide, by decide, by decide, by decide⟩
theorem n4_ok : SgOk 2 2 n4M := ⟨by decide, by decide, by decide, by decide⟩
theorem of_n {s : ByteArray} {L : List (List UInt8)} {N : Nat} {cs : List UInt8} (hs : s.data.toList = cs) (hN : cs.length = N) (hm : N ≤ 1000) (hv : Pure.verdict cs = .good L) (w : World) (hw : Ways w) :
    Calls Tryz.prog 32 #[.string s] w (PlanOf w L) := by
  have hsz : s.size = N := by
    have : s.data.toList.length = N := by rw [hs]; exact hN
    simpa using this
  exact of_good (by rw [hs]; exact hv) w hw (by unfold maxLen; omega)
theorem n1_v : Pure.verdict [46, 46, 46, 46, 46, 10, 35, 35, 46, 35, 35, 10, 35, 35, 46, 35, 35, 10] = .good n1L := rfl
theorem n2_v : Pure.verdict [35, 46, 35, 35, 10, 35, 46, 35, 35, 10, 35, 46, 46, 46, 10] = .good n2L := rfl
theorem n3_v : Pure.verdict [62, 46, 60, 10] = .good n3L := rfl
theorem n4_v : Pure.verdict [46, 46, 10, 46, 46, 10] = .good n4L := rfl
/-- No map has no cells. -/
theorem cells_none (w : World) : Calls Tryz.prog 15 #[.pointer none] w fun e w' => e = .returned (.int .i64 0) ∧ w = w' := by
  go_enter Tryz.func15, Tryz.ntmps15
  go_wp2
  first | (go_ret; exact ⟨rfl, rfl⟩) | exact ⟨rfl, rfl⟩
theorem of_none (w : World) : Calls Tryz.prog 16 #[.pointer none] w fun e w' => e = .returned (.tuple #[.pointer none, .int .i64 1]) ∧ w = w' := by
  have HC := Lib.hid (cells_none w)
  go_enter Tryz.func16, Tryz.ntmps16
  go_wp2
  go_step3
  go_wp2_with (go_at_call 15; (with_reducible refine HC.out.mono ?_); rintro e w' ⟨rfl, rfl⟩)
  refine ⟨rfl, .tuple #[.pointer none, .int .i64 1], ?_, rfl, rfl⟩
  simp only [results, Tryz.results16]
  simp [go_sem]
theorem of_zero {w : World} {z : Nat} (h2 : w.cell? ⟨z, 2, none⟩ = some (.slice none 0 0)) : Calls Tryz.prog 16 #[.pointer (some ⟨z, 0, none⟩)] w fun e w' => e = .returned (.tuple #[.pointer none, .int .i64 1]) ∧ w = w' := by
  have HC := Lib.hid (cells_any z none 0 0 w h2)
  clear h2
  go_enter Tryz.func16, Tryz.ntmps16
  go_wp2
  go_step3
  go_wp2_with (go_at_call 15; (with_reducible refine HC.out.mono ?_); rintro e w' ⟨rfl, rfl⟩)
  refine ⟨rfl, .tuple #[.pointer none, .int .i64 1], ?_, rfl, rfl⟩
  simp only [results, Tryz.results16]
  simp [go_sem]
end Go.Proofs.YtekhlaodlagbdaaGreatDoor

/-
  The law SegmentNames.
-/
namespace Go.Proofs.YtekhlaodlagbdaaGreatDoor
set_option maxRecDepth 100000
set_option linter.unusedSimpArgs false
open Go Go.RowKit

theorem dlst_row {w : World} {B : Nat} {v : Value} {l : List (Nat × Nat)} (h : w.ownsRow B 22 2 v l.length (l.flatMap prV)) : DLst w v l := by
  rcases h.2 with ⟨rfl, h0⟩ | ⟨g, cap, cur, rfl, hg, hb, h1, h2, h3, h4⟩
  · have : l = [] := List.eq_nil_of_length_eq_zero h0
    subst this
    exact ⟨_, _, rfl, fun j hj => by simp at hj⟩
  · refine ⟨_, _, rfl, fun j hj => ⟨g, rfl, ?_, ?_⟩⟩
    · have := h.cellAt (j * 2) (by omega)
      rw [this, flat_get l (j * 2) (by omega)]
      have e1 : j * 2 / 2 = j := by omega
      have e2 : j * 2 % 2 = 0 := by omega
      rw [e1, e2]
      simp [prV, List.getD, hj]
    · have := h.cellAt (j * 2 + 1) (by omega)
      rw [this, flat_get l (j * 2 + 1) (by omega)]
      have e1 : (j * 2 + 1) / 2 = j := by omega
      have e2 : (j * 2 + 1) % 2 = 1 := by omega
      rw [e1, e2]
      simp [prV, List.getD, hj]
theorem DLst.below {w w' : World} {v : Value} {l : List (Nat × Nat)} (h : DLst w v l) (hb : Below w.heap.size w w') : DLst w' v l := by
  obtain ⟨a, c, rfl, hc⟩ := h
  refine ⟨a, c, rfl, fun j hj => ?_⟩
  obtain ⟨g, e, h1, h2⟩ := hc j hj
  have hk : Kept (fun _ => False) w w' := Kept.of_below hb (Nat.le_refl _)
  exact ⟨g, e, hk.cell h1 id, hk.cell h2 id⟩
theorem dlst_one (w : World) (a b : Nat) : DLst (w.alloc (.cells #[.int .i64 (a : Int), .int .i64 (b : Int)] 22)) (.slice (some ⟨w.heap.size, 0, none⟩) 1 1) [(a, b)] := by
  refine ⟨_, _, rfl, fun j hj => ?_⟩
  obtain rfl : j = 0 := by simp at hj; omega
  exact ⟨_, rfl, by rw [blk_cell (World.alloc_heap_new w _)]; rfl, by rw [blk_cell (World.alloc_heap_new w _)]; rfl⟩

set_option maxHeartbeats 8000000 in
theorem snames_any {w : World} (hw : Ways w) : Calls Tryz.prog 4 #[] w fun e w' => e = .returned (.bool true) ∧ Below w.heap.size w w' := by
  obtain ⟨P, hP⟩ : ∃ P : Ending → World → Prop, P = fun e w' => e = .returned (.bool true) ∧ Below w.heap.size w w' := ⟨_, rfl⟩
  have HQ : Hid (∀ w', Below w.heap.size w w' → P (.returned (.bool true)) w') := by rw [hP]; exact fun w' h => ⟨rfl, h⟩
  rw [← hP]
  clear hP
  have HW : Hid (∀ V, Below w.heap.size w V → Ways V) := fun V h => ways_below hw h
  go_enter Tryz.func4, Tryz.ntmps4
  go_wp2_with fail
  refine (of_n (N := 18) (cs := [46, 46, 46, 46, 46, 10, 35, 35, 46, 35, 35, 10, 35, 35, 46, 35, 35, 10]) rfl rfl (by decide) n1_v w hw).mono ?_
  rintro e wA ⟨p, bm, gm, cm, rfl, hA⟩
  have hA : M2 w bm gm cm 3 5 n1M p (planF 3 5 n1M) wA := hA
  have HBA : Hid (Below w.heap.size w wA) := hA.bl
  have KLen : Hid (∀ V, Below wA.heap.size wA V → Calls Tryz.prog 18 #[.pointer (some ⟨p, 0, none⟩)] V fun e w' => e = .returned (.int .i64 7) ∧ Below wA.heap.size wA w') := fun V h => (plen_any (hA.pl.still h) (n := 7) (by rw [n1_plan.1]; rfl)).mono fun e w' hr => ⟨hr.1, hr.2 ▸ h⟩
  have KS12 : Hid (∀ V, Below wA.heap.size wA V → Calls Tryz.prog 23 #[.pointer (some ⟨p, 0, none⟩), .int .i64 12] V fun e w' => e = .returned (.int .i64 (6)) ∧ Below wA.heap.size wA w') := fun V h => (pseg_any (hA.pl.still h) 12 (v := 6) (by unfold segZ; rw [if_pos (by decide)]; exact n1_plan.2.2.1)).mono fun e w' hr => ⟨hr.1, hr.2 ▸ h⟩
  have KS5 : Hid (∀ V, Below wA.heap.size wA V → Calls Tryz.prog 23 #[.pointer (some ⟨p, 0, none⟩), .int .i64 5] V fun e w' => e = .returned (.int .i64 (-1)) ∧ Below wA.heap.size wA w') := fun V h => (pseg_any (hA.pl.still h) 5 (v := -1) (by unfold segZ; rw [if_pos (by decide)]; exact n1_plan.2.2.2)).mono fun e w' hr => ⟨hr.1, hr.2 ▸ h⟩
  have KK0 : Hid (∀ V, Below wA.heap.size wA V → Calls Tryz.prog 21 #[.pointer (some ⟨p, 0, none⟩), .int .i64 0] V fun e w' => e = .returned (.int .i64 1) ∧ Below wA.heap.size wA w') := fun V h => (pkind_any (hA.pl.still h) 0 (by rw [n1_plan.1, n1_plan.2.1]; rfl) (k := 1) (by unfold kindZ hasZ; rw [n1_plan.1, n1_plan.2.1]; rfl)).mono fun e w' hr => ⟨hr.1, hr.2 ▸ h⟩
  have KK1 : Hid (∀ V, Below wA.heap.size wA V → Calls Tryz.prog 21 #[.pointer (some ⟨p, 0, none⟩), .int .i64 1] V fun e w' => e = .returned (.int .i64 2) ∧ Below wA.heap.size wA w') := fun V h => (pkind_any (hA.pl.still h) 1 (by rw [n1_plan.1, n1_plan.2.1]; rfl) (k := 2) (by unfold kindZ hasZ; rw [n1_plan.1, n1_plan.2.1]; rfl)).mono fun e w' hr => ⟨hr.1, hr.2 ▸ h⟩
  have KD12 : Hid (∀ V, Below wA.heap.size wA V → Calls Tryz.prog 26 #[.pointer (some ⟨p, 0, none⟩), .int .i64 1, .int .i64 2] V fun e w' => ∃ v c, e = .returned (.slice v 1 c) ∧ DLst w' (.slice v 1 c) [(1, 2)] ∧ Below wA.heap.size wA w') := fun V h => by
    have := mpl_doors n1_ok (hA.below h) 1 2
    rw [n1_d12] at this
    refine this.mono ?_
    rintro e w' ⟨v, rfl, _, hr, hb⟩
    have hd := dlst_row hr
    obtain ⟨a1, c1, rfl, hc⟩ := hd
    exact ⟨a1, c1, rfl, ⟨a1, c1, rfl, hc⟩, h.trans (hb.mono h.size)⟩
  have KD25 : Hid (∀ V, Below wA.heap.size wA V → Calls Tryz.prog 26 #[.pointer (some ⟨p, 0, none⟩), .int .i64 2, .int .i64 5] V fun e w' => ∃ v c, e = .returned (.slice v 1 c) ∧ DLst w' (.slice v 1 c) [(2, 7)] ∧ Below wA.heap.size wA w') := fun V h => by
    have := mpl_doors n1_ok (hA.below h) 2 5
    rw [n1_d25] at this
    refine this.mono ?_
    rintro e w' ⟨v, rfl, _, hr, hb⟩
    have hd := dlst_row hr
    obtain ⟨a1, c1, rfl, hc⟩ := hd
    exact ⟨a1, c1, rfl, ⟨a1, c1, rfl, hc⟩, h.trans (hb.mono h.size)⟩
  have KD11 : Hid (∀ V, Below wA.heap.size wA V → Calls Tryz.prog 26 #[.pointer (some ⟨p, 0, none⟩), .int .i64 1, .int .i64 1] V fun e w' => ∃ v c, e = .returned (.slice v 0 c) ∧ DLst w' (.slice v 0 c) [] ∧ Below wA.heap.size wA w') := fun V h => by
    have := mpl_doors n1_ok (hA.below h) 1 1
    rw [n1_d11] at this
    refine this.mono ?_
    rintro e w' ⟨v, rfl, _, hr, hb⟩
    have hd := dlst_row hr
    obtain ⟨a1, c1, rfl, hc⟩ := hd
    exact ⟨a1, c1, rfl, ⟨a1, c1, rfl, hc⟩, h.trans (hb.mono h.size)⟩
  have KE12 : Hid (∀ V v c, Below wA.heap.size wA V → DLst V (.slice v 1 c) [(1, 2)] → Calls Tryz.prog 28 #[.slice v 1 c, .slice (some ⟨V.heap.size, 0, none⟩) 1 1] (V.alloc (.cells #[.int .i64 1, .int .i64 2] 22)) fun e w' => e = .returned (.bool true) ∧ Below wA.heap.size wA w') := fun V v c h hd => by
    have hb := (Below.refl V.heap.size V).alloc (Nat.le_refl _) (.cells #[.int .i64 1, .int .i64 2] 22)
    refine (sdoors_any (hd.below hb) (dlst_one V 1 2) (by decide)).mono ?_
    rintro e w' ⟨rfl, m, rfl⟩
    exact ⟨by simp, h.trans ((bel_drewN hb m).mono h.size)⟩
  have KE27 : Hid (∀ V v c, Below wA.heap.size wA V → DLst V (.slice v 1 c) [(2, 7)] → Calls Tryz.prog 28 #[.slice v 1 c, .slice (some ⟨V.heap.size, 0, none⟩) 1 1] (V.alloc (.cells #[.int .i64 2, .int .i64 7] 22)) fun e w' => e = .returned (.bool true) ∧ Below wA.heap.size wA w') := fun V v c h hd => by
    have hb := (Below.refl V.heap.size V).alloc (Nat.le_refl _) (.cells #[.int .i64 2, .int .i64 7] 22)
    refine (sdoors_any (hd.below hb) (dlst_one V 2 7) (by decide)).mono ?_
    rintro e w' ⟨rfl, m, rfl⟩
    exact ⟨by simp, h.trans ((bel_drewN hb m).mono h.size)⟩
  have KN : Hid (∀ V, Below wA.heap.size wA V → Calls Tryz.prog 25 #[.pointer (some ⟨p, 0, none⟩), .int .i64 2] V fun e w' => ∃ v c, e = .returned (.slice v 3 c) ∧ Lst w' (.slice v 3 c) [1, 3, 5] ∧ Below wA.heap.size wA w') := fun V h => by
    have := mpl_next n1_ok (hA.below h) 2
    rw [n1_next] at this
    refine this.mono ?_
    rintro e w' ⟨v, rfl, _, ⟨a1, c1, rfl, hc⟩, hb⟩
    exact ⟨a1, c1, rfl, ⟨a1, c1, rfl, hc⟩, h.trans (hb.mono h.size)⟩
  have KSm : Hid (∀ V v c, Below wA.heap.size wA V → Lst V (.slice v 3 c) [1, 3, 5] → Calls Tryz.prog 20 #[.slice v 3 c, .slice (some ⟨V.heap.size, 0, none⟩) 3 3] (V.alloc (.cells #[.int .i64 1, .int .i64 3, .int .i64 5] 3)) fun e w' => e = .returned (.bool true) ∧ Below wA.heap.size wA w') := fun V v c h hd => by
    have hb := (Below.refl V.heap.size V).alloc (Nat.le_refl _) (.cells #[.int .i64 1, .int .i64 3, .int .i64 5] 3)
    refine (ssame_any (hd.below hb) (lst_new V [1, 3, 5] rfl rfl) (by decide)).mono ?_
    rintro e w' ⟨rfl, m, rfl⟩
    exact ⟨by simp, h.trans ((bel_drewN hb m).mono h.size)⟩
  have KM : Hid (∀ V, Below wA.heap.size wA V → Calls Tryz.prog 33 #[.pointer (some ⟨p, 0, none⟩)] V fun e w' => e = .returned (.pointer (some ⟨bm, 0, none⟩)) ∧ Below wA.heap.size wA w') := fun V h => (pmap_any (hA.pl.still h)).mono fun e w' hr => ⟨hr.1, hr.2 ▸ h⟩
  have KC : Hid (∀ V, Below wA.heap.size wA V → Calls Tryz.prog 15 #[.pointer (some ⟨bm, 0, none⟩)] V fun e w' => e = .returned (.int .i64 15) ∧ Below wA.heap.size wA w') := fun V h => (m2_cells (hA.below h) (N := 15) (by decide)).mono fun e w' hr => ⟨hr.1, hr.2 ▸ h⟩
  have H0 : Hid (Below wA.heap.size wA wA) := Below.refl _ wA
  clear hA hw
  go_wp2_with fail
  refine (KLen.out _ H0.out).mono ?_
  rintro e w1 ⟨rfl, hb⟩
  have H1 := Lib.hid hb
  clear hb
  go_wp2_with fail
  refine (KS12.out _ H1.out).mono ?_
  rintro e w2 ⟨rfl, hb⟩
  have H2 := Lib.hid hb
  clear hb
  go_wp2_with fail
  refine (KS5.out _ H2.out).mono ?_
  rintro e w3 ⟨rfl, hb⟩
  have H3 := Lib.hid hb
  clear hb
  go_wp2_with fail
  refine (KK0.out _ H3.out).mono ?_
  rintro e w4 ⟨rfl, hb⟩
  have H4 := Lib.hid hb
  clear hb
  go_wp2_with fail
  refine (KK1.out _ H4.out).mono ?_
  rintro e w5 ⟨rfl, hb⟩
  have H5 := Lib.hid hb
  clear hb
  go_wp2_with fail
  refine (KD12.out _ H5.out).mono ?_
  rintro e w6 ⟨v, c, rfl, hl, hb⟩
  have H6 := Lib.hid hb
  have HL := Lib.hid hl
  clear hb hl
  go_wp2_with fail
  refine (KE12.out _ _ _ H6.out HL.out).mono ?_
  clear HL
  rintro e w7 ⟨rfl, hb⟩
  have H7 := Lib.hid hb
  clear hb
  go_wp2_with fail
  refine (KD25.out _ H7.out).mono ?_
  rintro e w8 ⟨v, c, rfl, hl, hb⟩
  have H8 := Lib.hid hb
  have HL := Lib.hid hl
  clear hb hl
  go_wp2_with fail
  refine (KE27.out _ _ _ H8.out HL.out).mono ?_
  clear HL
  rintro e w9 ⟨rfl, hb⟩
  have H9 := Lib.hid hb
  clear hb
  go_wp2_with fail
  refine (KD11.out _ H9.out).mono ?_
  rintro e w10 ⟨v, c, rfl, hl, hb⟩
  have H10 := Lib.hid hb
  have HL := Lib.hid hl
  clear hb hl
  clear HL
  go_wp2_with fail
  refine (KN.out _ H10.out).mono ?_
  rintro e w11 ⟨v, c, rfl, hl, hb⟩
  have H11 := Lib.hid hb
  have HL := Lib.hid hl
  clear hb hl
  go_wp2_with fail
  refine (KSm.out _ _ _ H11.out HL.out).mono ?_
  clear HL
  rintro e w12 ⟨rfl, hb⟩
  have H12 := Lib.hid hb
  clear hb
  go_wp2_with fail
  refine (KM.out _ H12.out).mono ?_
  rintro e w13 ⟨rfl, hb⟩
  have H13 := Lib.hid hb
  clear hb
  go_wp2_with fail
  refine (KC.out _ H13.out).mono ?_
  rintro e w14 ⟨rfl, hb⟩
  have H14 := Lib.hid hb
  clear hb
  have HB1 : Hid (Below w.heap.size w w14) := HBA.out.trans (H14.out.mono HBA.out.size)
  clear KLen KS12 KS5 KK0 KK1 KD12 KE12 KD25 KE27 KD11 KN KSm KM KC
  clear H0 H1 H2 H3 H4 H5 H6 H7 H8 H9 H10 H11 H12 H13 H14
  go_wp2_with fail
  refine (of_n (N := 15) (cs := [35, 46, 35, 35, 10, 35, 46, 35, 35, 10, 35, 46, 46, 46, 10]) rfl rfl (by decide) n2_v _ (HW.out _ HB1.out)).mono ?_
  rintro e wB ⟨p2, bm2, gm2, cm2, rfl, hB⟩
  have hB : M2 w14 bm2 gm2 cm2 3 4 n2M p2 (planF 3 4 n2M) wB := hB
  have HB2 : Hid (Below w.heap.size w wB) := HB1.out.trans (hB.bl.mono HB1.out.size)
  go_wp2_with fail
  refine (of_n (N := 4) (cs := [62, 46, 60, 10]) rfl rfl (by decide) n3_v _ (HW.out _ HB2.out)).mono ?_
  rintro e wC ⟨p3, bm3, gm3, cm3, rfl, hC⟩
  have hC : M2 wB bm3 gm3 cm3 1 3 n3M p3 (planF 1 3 n3M) wC := hC
  have HB3 : Hid (Below w.heap.size w wC) := HB2.out.trans (hC.bl.mono HB2.out.size)
  go_wp2_with fail
  refine (of_n (N := 6) (cs := [46, 46, 10, 46, 46, 10]) rfl rfl (by decide) n4_v _ (HW.out _ HB3.out)).mono ?_
  rintro e wD ⟨p4, bm4, gm4, cm4, rfl, hD⟩
  have hD : M2 wC bm4 gm4 cm4 2 2 n4M p4 (planF 2 2 n4M) wD := hD
  have HBD : Hid (Below w.heap.size w wD) := HB3.out.trans (hD.bl.mono HB3.out.size)
  have hB2 := (hB.below hC.bl).below hD.bl
  have hC2 := hC.below hD.bl
  have KS9 : Hid (∀ V, Below wD.heap.size wD V → Calls Tryz.prog 23 #[.pointer (some ⟨p2, 0, none⟩), .int .i64 9] V fun e w' => e = .returned (.int .i64 1) ∧ Below wD.heap.size wD w') := fun V h => (pseg_any (hB2.pl.still h) 9 (v := 1) (by unfold segZ; rw [if_pos (by decide)]; exact n2_plan.2)).mono fun e w' hr => ⟨hr.1, hr.2 ▸ h⟩
  have KCq : Hid (∀ V, Below wD.heap.size wD V → Calls Tryz.prog 19 #[.pointer (some ⟨p2, 0, none⟩), .int .i64 1] V fun e w' => ∃ v c, e = .returned (.slice v 3 c) ∧ Lst w' (.slice v 3 c) [5, 9, 10] ∧ Below wD.heap.size wD w') := fun V h => by
    have e : cellsZ (planF 3 4 n2M) 1 = [5, 9, 10] := by unfold cellsZ hasZ; rw [n2_plan.1]; rfl
    have := pcells_any (hB2.pl.still h) 1 (by rw [e]; decide)
    rw [e] at this
    refine this.mono ?_
    rintro e w' ⟨v, rfl, hr, hb⟩
    obtain ⟨a1, c1, rfl, hc⟩ := lst_row hr
    exact ⟨a1, c1, rfl, ⟨a1, c1, rfl, hc⟩, h.trans (hb.mono h.size)⟩
  have KSq : Hid (∀ V v c, Below wD.heap.size wD V → Lst V (.slice v 3 c) [5, 9, 10] → Calls Tryz.prog 20 #[.slice v 3 c, .slice (some ⟨V.heap.size, 0, none⟩) 3 3] (V.alloc (.cells #[.int .i64 5, .int .i64 9, .int .i64 10] 3)) fun e w' => e = .returned (.bool true) ∧ Below wD.heap.size wD w') := fun V v c h hd => by
    have hb := (Below.refl V.heap.size V).alloc (Nat.le_refl _) (.cells #[.int .i64 5, .int .i64 9, .int .i64 10] 3)
    refine (ssame_any (hd.below hb) (lst_new V [5, 9, 10] rfl rfl) (by decide)).mono ?_
    rintro e w' ⟨rfl, m, rfl⟩
    exact ⟨by simp, h.trans ((bel_drewN hb m).mono h.size)⟩
  have KI1 : Hid (∀ V, Below wD.heap.size wD V → Calls Tryz.prog 30 #[.pointer (some ⟨p2, 0, none⟩), .int .i64 5, .int .i64 10] V fun e w' => e = .returned (.int .i64 (2)) ∧ Below wD.heap.size wD w') := fun V h => (m2_ins n2_ok (hB2.below h) 5 10 n2_ins.1).mono fun e w' hr => ⟨hr.1, h.trans (hr.2.2.mono h.size)⟩
  have KI2 : Hid (∀ V, Below wD.heap.size wD V → Calls Tryz.prog 30 #[.pointer (some ⟨p2, 0, none⟩), .int .i64 5, .int .i64 1] V fun e w' => e = .returned (.int .i64 (-1)) ∧ Below wD.heap.size wD w') := fun V h => (m2_ins n2_ok (hB2.below h) 5 1 n2_ins.2).mono fun e w' hr => ⟨hr.1, h.trans (hr.2.2.mono h.size)⟩
  have KL3 : Hid (∀ V, Below wD.heap.size wD V → Calls Tryz.prog 18 #[.pointer (some ⟨p3, 0, none⟩)] V fun e w' => e = .returned (.int .i64 3) ∧ Below wD.heap.size wD w') := fun V h => (plen_any (hC2.pl.still h) (n := 3) n3_plan).mono fun e w' hr => ⟨hr.1, hr.2 ▸ h⟩
  have KL4 : Hid (∀ V, Below wD.heap.size wD V → Calls Tryz.prog 18 #[.pointer (some ⟨p4, 0, none⟩)] V fun e w' => e = .returned (.int .i64 1) ∧ Below wD.heap.size wD w') := fun V h => (plen_any (hD.pl.still h) (n := 1) (by rw [n4_plan]; rfl)).mono fun e w' hr => ⟨hr.1, hr.2 ▸ h⟩
  have KC4 : Hid (∀ V, Below wD.heap.size wD V → Calls Tryz.prog 19 #[.pointer (some ⟨p4, 0, none⟩), .int .i64 0] V fun e w' => ∃ v c, e = .returned (.slice v 4 c) ∧ Lst w' (.slice v 4 c) [0, 1, 3, 2] ∧ Below wD.heap.size wD w') := fun V h => by
    have e : cellsZ (planF 2 2 n4M) 0 = [0, 1, 3, 2] := by unfold cellsZ hasZ; rw [n4_plan]; rfl
    have := pcells_any (hD.pl.still h) 0 (by rw [e]; decide)
    rw [e] at this
    refine this.mono ?_
    rintro e w' ⟨v, rfl, hr, hb⟩
    obtain ⟨a1, c1, rfl, hc⟩ := lst_row hr
    exact ⟨a1, c1, rfl, ⟨a1, c1, rfl, hc⟩, h.trans (hb.mono h.size)⟩
  have KS4 : Hid (∀ V v c, Below wD.heap.size wD V → Lst V (.slice v 4 c) [0, 1, 3, 2] → Calls Tryz.prog 20 #[.slice v 4 c, .slice (some ⟨V.heap.size, 0, none⟩) 4 4] (V.alloc (.cells #[.int .i64 0, .int .i64 1, .int .i64 3, .int .i64 2] 3)) fun e w' => e = .returned (.bool true) ∧ Below wD.heap.size wD w') := fun V v c h hd => by
    have hb := (Below.refl V.heap.size V).alloc (Nat.le_refl _) (.cells #[.int .i64 0, .int .i64 1, .int .i64 3, .int .i64 2] 3)
    refine (ssame_any (hd.below hb) (lst_new V [0, 1, 3, 2] rfl rfl) (by decide)).mono ?_
    rintro e w' ⟨rfl, m, rfl⟩
    exact ⟨by simp, h.trans ((bel_drewN hb m).mono h.size)⟩
  have H100 : Hid (Below wD.heap.size wD wD) := Below.refl _ wD
  clear hB hC hD hB2 hC2 HB1 HB2 HB3
  go_wp2_with fail
  refine (KS9.out _ H100.out).mono ?_
  rintro e w101 ⟨rfl, hb⟩
  have H101 := Lib.hid hb
  clear hb
  go_wp2_with fail
  refine (KCq.out _ H101.out).mono ?_
  rintro e w102 ⟨v, c, rfl, hl, hb⟩
  have H102 := Lib.hid hb
  have HL := Lib.hid hl
  clear hb hl
  go_wp2_with fail
  refine (KSq.out _ _ _ H102.out HL.out).mono ?_
  clear HL
  rintro e w103 ⟨rfl, hb⟩
  have H103 := Lib.hid hb
  clear hb
  go_wp2_with fail
  refine (KI1.out _ H103.out).mono ?_
  rintro e w104 ⟨rfl, hb⟩
  have H104 := Lib.hid hb
  clear hb
  go_wp2_with fail
  refine (KI2.out _ H104.out).mono ?_
  rintro e w105 ⟨rfl, hb⟩
  have H105 := Lib.hid hb
  clear hb
  go_wp2_with fail
  refine (KL3.out _ H105.out).mono ?_
  rintro e w106 ⟨rfl, hb⟩
  have H106 := Lib.hid hb
  clear hb
  go_wp2_with fail
  refine (KL4.out _ H106.out).mono ?_
  rintro e w107 ⟨rfl, hb⟩
  have H107 := Lib.hid hb
  clear hb
  go_wp2_with fail
  refine (KC4.out _ H107.out).mono ?_
  rintro e w108 ⟨v, c, rfl, hl, hb⟩
  have H108 := Lib.hid hb
  have HL := Lib.hid hl
  clear hb hl
  go_wp2_with fail
  refine (KS4.out _ _ _ H108.out HL.out).mono ?_
  clear HL
  rintro e w109 ⟨rfl, hb⟩
  have H109 := Lib.hid hb
  clear hb
  have HBE : Hid (Below w.heap.size w w109) := HBD.out.trans (H109.out.mono HBD.out.size)
  clear KS9 KCq KSq KI1 KI2 KL3 KL4 KC4 KS4
  clear H100 H101 H102 H103 H104 H105 H106 H107 H108 H109
  go_wp2_with fail
  refine (of_none _).mono ?_
  rintro e x ⟨rfl, rfl⟩
  go_wp2_with fail
  refine (of_zero (by rw [blk_cell (World.alloc_heap_new _ _)]; rfl)).mono ?_
  rintro e x ⟨rfl, rfl⟩
  go_wp2_with fail
  obtain ⟨wE, hwE⟩ : ∃ wE, (w109.alloc (.cells #[.int .i64 0, .int .i64 0, .slice none 0 0, .int .u32 0, .int .i32 0, .int .u32 0, .slice none 0 0, .slice none 0 0, .int .i64 0] 64)).alloc (.cells #[.pointer none, .slice none 0 0, .slice none 0 0, .slice none 0 0] 66) = wE := ⟨_, rfl⟩
  have HZ0 : Hid (NoPlan wE (some ⟨w109.heap.size + 1, 0, none⟩)) := .inr ⟨_, rfl, by
    rw [← hwE]
    have := World.alloc_heap_new (w109.alloc (.cells #[.int .i64 0, .int .i64 0, .slice none 0 0, .int .u32 0, .int .i32 0, .int .u32 0, .slice none 0 0, .slice none 0 0, .int .i64 0] 64)) (.cells #[.pointer none, .slice none 0 0, .slice none 0 0, .slice none 0 0] 66)
    rwa [World.size_alloc] at this⟩
  have HBF : Hid (Below w.heap.size w wE) := by
    rw [← hwE]
    exact (HBE.out.alloc HBE.out.size _).alloc (by rw [World.size_alloc]; have := HBE.out.size; omega) _
  rw [hwE]
  clear hwE
  have KA : Hid (∀ V, Below wE.heap.size wE V → Calls Tryz.prog 34 #[] V fun e w' => e = .returned (.bool true) ∧ Below wE.heap.size wE w') := fun V h => (salive_any V (HW.out V (HBF.out.trans (h.mono HBF.out.size)))).mono fun e w' hr => ⟨hr.1, h.trans (hr.2.mono h.size)⟩
  have KLn : Hid (∀ V, Below wE.heap.size wE V → Calls Tryz.prog 18 #[.pointer none] V fun e w' => e = .returned (.int .i64 0) ∧ Below wE.heap.size wE w') := fun V h => (plen_none V).mono fun e w' hr => ⟨hr.1, hr.2 ▸ h⟩
  have KSz : Hid (∀ V, Below wE.heap.size wE V → Calls Tryz.prog 23 #[.pointer (some ⟨w109.heap.size + 1, 0, none⟩), .int .i64 0] V fun e w' => e = .returned (.int .i64 (-1)) ∧ Below wE.heap.size wE w') := fun V h => (nseg (HZ0.out.below h) 0).mono fun e w' hr => ⟨hr.1, hr.2 ▸ h⟩
  have KCn : Hid (∀ V, Below wE.heap.size wE V → Calls Tryz.prog 19 #[.pointer none, .int .i64 0] V fun e w' => e = .returned (.slice none 0 0) ∧ Below wE.heap.size wE w') := fun V h => (ncells (.inl rfl) 0).mono fun e w' hr => ⟨hr.1, hr.2 ▸ h⟩
  have KKz : Hid (∀ V, Below wE.heap.size wE V → Calls Tryz.prog 21 #[.pointer (some ⟨w109.heap.size + 1, 0, none⟩), .int .i64 0] V fun e w' => e = .returned (.int .i64 0) ∧ Below wE.heap.size wE w') := fun V h => (nkind (HZ0.out.below h) 0).mono fun e w' hr => ⟨hr.1, hr.2 ▸ h⟩
  have KNn : Hid (∀ V, Below wE.heap.size wE V → Calls Tryz.prog 25 #[.pointer none, .int .i64 0] V fun e w' => ∃ v c, e = .returned (.slice v 0 c) ∧ Below wE.heap.size wE w') := fun V h => by
    refine (nnext (.inl rfl) 0).mono ?_
    rintro e w' ⟨v, rfl, hr, hb⟩
    obtain ⟨a1, c1, rfl, _⟩ := lst_row (l := []) hr
    exact ⟨a1, c1, rfl, h.trans (hb.mono h.size)⟩
  have KDz : Hid (∀ V, Below wE.heap.size wE V → Calls Tryz.prog 26 #[.pointer (some ⟨w109.heap.size + 1, 0, none⟩), .int .i64 0, .int .i64 1] V fun e w' => ∃ v c, e = .returned (.slice v 0 c) ∧ Below wE.heap.size wE w') := fun V h => by
    refine (ndoors (HZ0.out.below h) 0 1 (sortD_any _)).mono ?_
    rintro e w' ⟨v, rfl, hr, hb⟩
    obtain ⟨a1, c1, rfl, _⟩ := dlst_row (l := []) hr
    exact ⟨a1, c1, rfl, h.trans (hb.mono h.size)⟩
  have KIn : Hid (∀ V, Below wE.heap.size wE V → Calls Tryz.prog 30 #[.pointer none, .int .i64 0, .int .i64 0] V fun e w' => e = .returned (.int .i64 (-1)) ∧ Below wE.heap.size wE w') := fun V h => (ninside (.inl rfl) 0 0).mono fun e w' hr => ⟨hr.1, h.trans (hr.2.mono h.size)⟩
  have KMn : Hid (∀ V, Below wE.heap.size wE V → Calls Tryz.prog 33 #[.pointer none] V fun e w' => e = .returned (.pointer none) ∧ Below wE.heap.size wE w') := fun V h => nmap.mono fun e w' hr => ⟨hr.1, hr.2 ▸ h⟩
  have H200 : Hid (Below wE.heap.size wE wE) := Below.refl _ wE
  clear HBE HBD HBA
  refine (KA.out _ H200.out).mono ?_
  rintro e w201 ⟨rfl, hb⟩
  have H201 := Lib.hid hb
  clear hb
  go_wp2_with fail
  refine (KLn.out _ H201.out).mono ?_
  rintro e w202 ⟨rfl, hb⟩
  have H202 := Lib.hid hb
  clear hb
  go_wp2_with fail
  refine (KSz.out _ H202.out).mono ?_
  rintro e w203 ⟨rfl, hb⟩
  have H203 := Lib.hid hb
  clear hb
  go_wp2_with fail
  refine (KCn.out _ H203.out).mono ?_
  rintro e w204 ⟨rfl, hb⟩
  have H204 := Lib.hid hb
  clear hb
  go_wp2_with fail
  refine (KKz.out _ H204.out).mono ?_
  rintro e w205 ⟨rfl, hb⟩
  have H205 := Lib.hid hb
  clear hb
  go_wp2_with fail
  refine (KNn.out _ H205.out).mono ?_
  rintro e w206 ⟨v, c, rfl, hb⟩
  have H206 := Lib.hid hb
  clear hb
  go_wp2_with fail
  refine (KDz.out _ H206.out).mono ?_
  rintro e w207 ⟨v, c, rfl, hb⟩
  have H207 := Lib.hid hb
  clear hb
  go_wp2_with fail
  refine (KIn.out _ H207.out).mono ?_
  rintro e w208 ⟨rfl, hb⟩
  have H208 := Lib.hid hb
  clear hb
  go_wp2_with fail
  refine (KMn.out _ H208.out).mono ?_
  rintro e w209 ⟨rfl, hb⟩
  have H209 := Lib.hid hb
  clear hb
  have HF : Hid (Below w.heap.size w w209) := HBF.out.trans (H209.out.mono HBF.out.size)
  go_wp2
  first | exact HQ.out _ HF.out | (go_ret; exact HQ.out _ HF.out)
end Go.Proofs.YtekhlaodlagbdaaGreatDoor

/-
  What the row's condition on the listed variable gives: the table of the ways lies in memory.
-/
namespace Go.Proofs.YtekhlaodlagbdaaGreatDoor
set_option maxRecDepth 100000
open Go.ChangeShapes Go.WideShapes Go.ChangeAt Go.RowKit

abbrev laid1 : List (String × DataW Unit) := Rows.segmentNamesRow.laid
def waysName : String := Rows.segmentNamesRow.named.headD ""
theorem gWays : Tryz.prog.globalNamed waysName = some 0 := by kernel_rfl
theorem tWays : (Tryz.prog.globals[0]?).map (·.type) = some 172 := by kernel_rfl

theorem way_of {H : Type} {enc : TypeId × Value → H} {w : World} {base : Nat} {spare : Nat → Bool} {held : Bool} {m : Nat} {c0 c1 c2 c3 : Value} {x : DataW H × List MemPlace}
    (h : DataW.trod enc Tryz.prog w base spare held m 142 [c0, c1, c2, c3] = some x) :
    ∃ a b c d, c0 = .int .u8 a ∧ c1 = .int .u8 b ∧ c2 = .int .i64 c ∧ c3 = .int .i64 d ∧ x.1 = .agg [.lit (.int .u8 a), .lit (.int .u8 b), .lit (.int .i64 c), .lit (.int .i64 d)] := by
  obtain ⟨xs, n, _, rfl, hl, hlen, hf⟩ := DataW.trod_struct Tryz.underlying142 h
  match xs, hlen with
  | [y0, y1, y2, y3], _ =>
    have c8 : Tryz.prog.cellsOf 5 = 1 := by kernel_rfl
    have c64 : Tryz.prog.cellsOf 3 = 1 := by kernel_rfl
    have h0 := hf 0 _ rfl
    have h1 := hf 1 _ rfl
    have h2 := hf 2 _ rfl
    have h3 := hf 3 _ rfl
    obtain ⟨a, e0, f0, _⟩ := DataW.trod_int (x := y0) Tryz.underlying5 h0
    obtain ⟨b, e1, f1, _⟩ := DataW.trod_int (x := y1) Tryz.underlying5 h1
    obtain ⟨c, e2, f2, _⟩ := DataW.trod_int (x := y2) Tryz.underlying3 h2
    obtain ⟨d, e3, f3, _⟩ := DataW.trod_int (x := y3) Tryz.underlying3 h3
    refine ⟨a, b, c, d, by simpa [c8] using e0, by simpa [c8] using e1, by simpa [c64] using e2, by simpa [c64] using e3, ?_⟩
    rw [f0, f1, f2, f3]
    rfl

theorem of_laid {W : World} (h : laidMetH Tryz.prog laid1 W) : Ways W := by
  rw [MakeChecks.laidMetH_plain _ _ _ (by kernel_rfl)] at h
  obtain ⟨ps, ⟨g0, t0, cs0, f0, p0, q0, hg0, ht0, hv0, hd0, _, _⟩, _, _⟩ := h
  obtain rfl := Option.some.inj (gWays.symm.trans hg0)
  obtain rfl := Option.some.inj (tWays.symm.trans ht0)
  obtain ⟨xs, m1, rfl, hx1, hlen, hn, hel⟩ := DataW.trod_array Tryz.underlying172 hd0
  have c4 : Tryz.prog.cellsOf 142 = 4 := by kernel_rfl
  have c16 : Tryz.prog.cellsOf 172 = 16 := by kernel_rfl
  obtain ⟨l⟩ := cs0
  have hcell := World.var?_cell hg0 hv0
  rw [c16] at hlen
  match l, hlen with
  | [b0, b1, b2, b3, b4, b5, b6, b7, b8, b9, b10, b11, b12, b13, b14, b15], _ =>
    match xs, hn with
    | [x0, x1, x2, x3], _ =>
      have h0 := hel 0 (by decide)
      have h1 := hel 1 (by decide)
      have h2 := hel 2 (by decide)
      have h3 := hel 3 (by decide)
      rw [c4] at h0 h1 h2 h3
      obtain ⟨k0, k1, k2, k3, e0, e1, e2, e3, r0⟩ := way_of (x := x0) (c0 := b0) (c1 := b1) (c2 := b2) (c3 := b3) h0
      obtain ⟨k4, k5, k6, k7, e4, e5, e6, e7, r1⟩ := way_of (x := x1) (c0 := b4) (c1 := b5) (c2 := b6) (c3 := b7) h1
      obtain ⟨k8, k9, k10, k11, e8, e9, e10, e11, r2⟩ := way_of (x := x2) (c0 := b8) (c1 := b9) (c2 := b10) (c3 := b11) h2
      obtain ⟨k12, k13, k14, k15, e12, e13, e14, e15, r3⟩ := way_of (x := x3) (c0 := b12) (c1 := b13) (c2 := b14) (c3 := b15) h3
      have hd := congrArg Prod.fst hx1
      simp only [Rows.laid_wagonway_grid_ways, List.map_cons, List.map_nil, r0, r1, r2, r3, DataW.agg.injEq, List.cons.injEq, DataW.lit.injEq, Lit.int.injEq, true_and, and_true] at hd
      obtain ⟨⟨v0, v1, v2, v3⟩, ⟨v4, v5, v6, v7⟩, ⟨v8, v9, v10, v11⟩, v12, v13, v14, v15⟩ := hd
      intro j u hj
      rw [hcell j]
      subst e0 e1 e2 e3 e4 e5 e6 e7 e8 e9 e10 e11 e12 e13 e14 e15
      rw [← v0, ← v1, ← v2, ← v3, ← v4, ← v5, ← v6, ← v7, ← v8, ← v9, ← v10, ← v11, ← v12, ← v13, ← v14, ← v15]
      simpa [waysL] using hj
end Go.Proofs.YtekhlaodlagbdaaGreatDoor
