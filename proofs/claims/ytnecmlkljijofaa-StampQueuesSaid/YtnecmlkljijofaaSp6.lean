/-
  Lists of waiters that are the same; the chapter's queue, and its first examples.
-/
import Derived.Test.YtnecmlkljijofaaSp5
import Derived.Laws.StructEq
import Derived.BigQuiet
import Derived.Deep.QuietTactic
namespace Go.Proofs.Ytnecmlkljijofaa
set_option maxRecDepth 100000
set_option linter.unusedSimpArgs false
open Go Go.RowKit Sp

abbrev Still (w w' : World) : Prop := Kept (fun _ => False) w w'
theorem still_of {w w' : World} (h : Below w.heap.size w w') : Still w w' := Kept.of_below h (Nat.le_refl _)
/-- A list of waiters in memory. -/
def IsW (w : World) (v : Value) (l : List Wt) : Prop :=
  ∃ a cap, v = .slice a l.length cap ∧ ∀ j, j < l.length → ∃ g, a = some ⟨g, 0, none⟩ ∧ w.cell? ⟨g, j * 3, none⟩ = some (.int .i64 (l.getD j w0).r) ∧ w.cell? ⟨g, j * 3 + 1, none⟩ = some (.int .u64 (l.getD j w0).s) ∧ w.cell? ⟨g, j * 3 + 2, none⟩ = some (.int .i64 (l.getD j w0).p)
theorem IsW.kept {w w' : World} {v : Value} {l : List Wt} {X : Nat → Prop} (h : IsW w v l) (hk : Kept X w w') (hX : ∀ k, v.ownBlock = some k → ¬ X k) : IsW w' v l := by
  obtain ⟨a, c, rfl, h2⟩ := h
  refine ⟨a, c, rfl, fun j hj => ?_⟩
  obtain ⟨g, rfl, c0, c1, c2⟩ := h2 j hj
  exact ⟨g, rfl, hk.cell c0 (hX g rfl), hk.cell c1 (hX g rfl), hk.cell c2 (hX g rfl)⟩
theorem IsW.still {w w' : World} {v : Value} {l : List Wt} (h : IsW w v l) (hk : Still w w') : IsW w' v l := h.kept hk (fun _ _ => id)
theorem IsW.of_row {w : World} {base : Nat} {v : Value} {l : List Wt} (h : w.ownsRow base 40 3 v l.length (csA l)) : IsW w v l := by
  have h0 := h
  rcases h.2 with ⟨rfl, hl⟩ | ⟨g, cap, cur, rfl, h1, _⟩
  · have : l = [] := List.eq_nil_of_length_eq_zero (by omega)
    subst this
    exact ⟨none, 0, rfl, fun j hj => by simp at hj⟩
  · refine ⟨some ⟨g, 0, none⟩, cap, rfl, fun j hj => ⟨g, rfl, ?_⟩⟩
    have hc : ∀ k, k < 3 → ∀ u, (wc (l.getD j w0))[k]? = some u → w.cell? ⟨g, j * 3 + k, none⟩ = some u := by
      intro k hk u hu
      have := h0.cells (g := g) rfl (j * 3 + k) u (by rw [csA_get hj k hk]; exact hu)
      have e : (⟨g, 0, none⟩ : Addr).add (j * 3 + k) = ⟨g, j * 3 + k, none⟩ := by unfold Addr.add; split <;> simp_all
      rw [e] at this
      exact this
    exact ⟨hc 0 (by omega) _ rfl, hc 1 (by omega) _ rfl, hc 2 (by omega) _ rfl⟩
theorem take_snoc_w {l : List Wt} {k : Nat} (h : k < l.length) : l.take (k + 1) = l.take k ++ [l.getD k w0] := by
  rw [List.take_succ_eq_append_getElem h]; simp [List.getD, h]

theorem undW : Try.prog.underlying 40 = some (.struct (Try.prog.fieldsOf 40)) := by kernel_rfl
theorem eqWt (x0 x1 x2 y0 y1 y2 : Int) (w : World) :
    (Op.equalIn 10000 40 (.agg #[.int .i64 x0, .int .u64 x1, .int .i64 x2]) (.agg #[.int .i64 y0, .int .u64 y1, .int .i64 y2])).run Try.prog w = .ok (x0 == y0 && (x1 == y1 && x2 == y2)) w := by
  have hi : Try.prog.underlying 3 = some (.int .i64) := by kernel_rfl
  have hu : Try.prog.underlying 27 = some (.int .u64) := by kernel_rfl
  have h1 : ∀ (a b : Int) (w : World), (Op.equalIn 9999 3 (.int .i64 a) (.int .i64 b)).run Try.prog w = .ok (a == b) w := fun a b w => run_equalIn_int w 9998 _ _ _ a b hi
  have h2 : ∀ (a b : Int) (w : World), (Op.equalIn 9999 27 (.int .u64 a) (.int .u64 b)).run Try.prog w = .ok (a == b) w := fun a b w => run_equalIn_int w 9998 _ _ _ a b hu
  rw [run_equalIn_struct w 9999 _ _ _ undW (by kernel_rfl)]
  have hp : ∀ (t : TypeId), (∀ w, (isAgg t).run Try.prog w = .ok false w) → ∀ (xs : Array Value) (i : Nat) (v : Value) (w : World), xs[i]? = some v → (part t xs i).run Try.prog w = .ok v w := by
    intro t ht xs i v w h
    simp only [part, Sem.run_bind, ht, Result.andThen_ok, Bool.false_eq_true, if_false, h, Sem.run_pure]
  have ai : ∀ w, (isAgg 3).run Try.prog w = .ok false w := fun _ => by kernel_rfl
  have au : ∀ w, (isAgg 27).run Try.prog w = .ok false w := fun _ => by kernel_rfl
  have hf : (Try.prog.fieldsOf 40).toList.map (fun f => (decide (f.name = "_"), f.type, f.offset)) = [(false, 3, 0), (false, 27, 1), (false, 3, 2)] := by kernel_rfl
  generalize (Try.prog.fieldsOf 40).toList = fs at *
  rcases fs with _ | ⟨f0, _ | ⟨f1, _ | ⟨f2, _ | ⟨f3, fs⟩⟩⟩⟩ <;> simp only [List.map_nil, List.map_cons, List.cons.injEq, Prod.mk.injEq, reduceCtorEq, and_false, false_and, and_true, List.nil_eq, List.cons_ne_nil] at hf
  obtain ⟨⟨n0, t0, o0⟩, ⟨n1, t1, o1⟩, ⟨n2, t2, o2⟩⟩ := hf
  have m0 : f0.name ≠ "_" := by simpa using n0
  have m1 : f1.name ≠ "_" := by simpa using n1
  have m2 : f2.name ≠ "_" := by simpa using n2
  have p0 := fun w => hp _ ai #[.int .i64 x0, .int .u64 x1, .int .i64 x2] 0 (.int .i64 x0) w rfl
  have q0 := fun w => hp _ ai #[.int .i64 y0, .int .u64 y1, .int .i64 y2] 0 (.int .i64 y0) w rfl
  have p1 := fun w => hp _ au #[.int .i64 x0, .int .u64 x1, .int .i64 x2] 1 (.int .u64 x1) w rfl
  have q1 := fun w => hp _ au #[.int .i64 y0, .int .u64 y1, .int .i64 y2] 1 (.int .u64 y1) w rfl
  have p2 := fun w => hp _ ai #[.int .i64 x0, .int .u64 x1, .int .i64 x2] 2 (.int .i64 x2) w rfl
  have q2 := fun w => hp _ ai #[.int .i64 y0, .int .u64 y1, .int .i64 y2] 2 (.int .i64 y2) w rfl
  generalize (#[.int .i64 x0, .int .u64 x1, .int .i64 x2] : Array Value) = XS at *
  generalize (#[.int .i64 y0, .int .u64 y1, .int .i64 y2] : Array Value) = YS at *
  simp only [Op.eqFields, ne_eq, m0, m1, m2, not_false_eq_true, if_true, t0, t1, t2, o0, o1, o2]
  cases e0 : (x0 == y0)
  · simp only [Sem.run_bind, p0, q0, Result.andThen_ok, h1, e0, Bool.not_false, if_true, Sem.run_pure, Bool.false_and]
  simp only [Sem.run_bind, p0, q0, Result.andThen_ok, h1, e0, Bool.not_true, Bool.false_eq_true, if_false, Bool.true_and]
  cases e1 : (x1 == y1)
  · simp only [Sem.run_bind, p1, q1, Result.andThen_ok, h2, e1, Bool.not_false, if_true, Sem.run_pure, Bool.false_and]
  simp only [Sem.run_bind, p1, q1, Result.andThen_ok, h2, e1, Bool.not_true, Bool.false_eq_true, if_false, Bool.true_and]
  cases e2 : (x2 == y2)
  · simp only [Sem.run_bind, p2, q2, Result.andThen_ok, h1, e2, Bool.not_false, if_true, Sem.run_pure]
  simp only [Sem.run_bind, p2, q2, Result.andThen_ok, h1, e2, Bool.not_true, Bool.false_eq_true, if_false, Sem.run_pure]

theorem eqWt_iff (a b : Wt) : (a.r == b.r && (a.s == b.s && a.p == b.p)) = decide (a = b) := by
  obtain ⟨a0, a1, a2⟩ := a
  obtain ⟨b0, b1, b2⟩ := b
  by_cases h : (⟨a0, a1, a2⟩ : Wt) = ⟨b0, b1, b2⟩
  · cases h; simp
  · rw [decide_eq_false h]
    simp only [Wt.mk.injEq, not_and] at h
    cases e0 : (a0 == b0)
    · rfl
    · cases e1 : (a1 == b1)
      · rfl
      · cases e2 : (a2 == b2)
        · rfl
        · exact absurd (by simpa using e2) (h (by simpa using e0) (by simpa using e1))

set_option maxHeartbeats 2000000 in
theorem same_any {w : World} {va vb : Value} {la lb : List Wt} (ha : IsW w va la) (hb : IsW w vb lb) (h1 : la.length ≤ 100000) :
    Calls Try.prog 25 #[va, vb] w fun e w' => e = .returned (.bool (decide (la = lb))) ∧ Still w w' := by
  obtain ⟨A, ca, rfl, hca⟩ := ha
  obtain ⟨B, cb, rfl, hcb⟩ := hb
  by_cases hl : la.length = lb.length
  · have HA : Hid (∀ wr, Still w wr → ∀ j, j < la.length → ∃ g, A = some ⟨g, 0, none⟩ ∧ wr.cell? ⟨g, j * 3, none⟩ = some (.int .i64 (la.getD j w0).r) ∧ wr.cell? ⟨g, j * 3 + 1, none⟩ = some (.int .u64 (la.getD j w0).s) ∧ wr.cell? ⟨g, j * 3 + 2, none⟩ = some (.int .i64 (la.getD j w0).p)) := by
      intro wr hk j hj
      obtain ⟨g, e, c0, c1, c2⟩ := hca j hj
      exact ⟨g, e, hk.cell c0 id, hk.cell c1 id, hk.cell c2 id⟩
    have HB : Hid (∀ wr, Still w wr → ∀ j, j < la.length → ∃ g, B = some ⟨g, 0, none⟩ ∧ wr.cell? ⟨g, j * 3, none⟩ = some (.int .i64 (lb.getD j w0).r) ∧ wr.cell? ⟨g, j * 3 + 1, none⟩ = some (.int .u64 (lb.getD j w0).s) ∧ wr.cell? ⟨g, j * 3 + 2, none⟩ = some (.int .i64 (lb.getD j w0).p)) := by
      intro wr hk j hj
      obtain ⟨g, e, c0, c1, c2⟩ := hcb j (by omega)
      exact ⟨g, e, hk.cell c0 id, hk.cell c1 id, hk.cell c2 id⟩
    rw [← hl]
    have HL := Lib.hid hl
    clear hca hcb hl
    obtain ⟨n, hn⟩ : ∃ n, n = la.length := ⟨_, rfl⟩
    rw [← hn] at HA HB h1 ⊢
    have HN := Lib.hid hn
    clear hn
    have hEq : ∀ (x0 x1 x2 y0 y1 y2 : Int) (w : World), (binOp .neq 40 (.agg #[.int .i64 x0, .int .u64 x1, .int .i64 x2]) (.agg #[.int .i64 y0, .int .u64 y1, .int .i64 y2])).run Try.prog w = .ok (.bool (!(x0 == y0 && (x1 == y1 && x2 == y2)))) w := fun x0 x1 x2 y0 y1 y2 w => by
      rw [run_neq_struct, eqWt]; rfl
    go_enter Try.func25, Try.ntmps25
    go_wp2
    go_loopw [13] (fun u wr => ∃ k : Nat, k ≤ n ∧ u = .int .i64 (k : Int) ∧ la.take k = lb.take k ∧ Still w wr) (fun u _ => n - (intOf u).toNat)
    case atStart => exact ⟨0, Nat.zero_le _, rfl, by simp, Kept.refl _ _⟩
    case round =>
      obtain ⟨k, hk, rfl, he, hw⟩ := hrel
      have HE := Lib.hid he
      clear he
      by_cases hlt : k < n
      · obtain ⟨ga, rfl, fa0, fa1, fa2⟩ := HA.out wr hw k hlt
        obtain ⟨gb, rfl, fb0, fb1, fb2⟩ := HB.out wr hw k hlt
        have HW := Lib.hid hw
        have hla : k < la.length := by rw [← HN.out]; exact hlt
        have hlb : k < lb.length := by rw [← HL.out]; exact hla
        have HS : Hid (la.getD k w0 = lb.getD k w0 → la.take (k + 1) = lb.take (k + 1)) := by
          intro h
          rw [take_snoc_w hla, take_snoc_w hlb, HE.out, h]
        have HD : Hid (la.getD k w0 ≠ lb.getD k w0 → la ≠ lb) := by
          rintro h rfl
          exact h rfl
        have hE := eqWt_iff (la.getD k w0) (lb.getD k w0)
        have k0 : (0 : Int) ≤ (k : Int) := by omega
        have k1 : (k : Int) < (n : Int) := by omega
        by_cases hxy : la.getD k w0 = lb.getD k w0
        · have HT := Lib.hid (HS.out hxy)
          rw [decide_eq_true hxy] at hE
          clear HS HD hw hla hlb hxy
          generalize la.getD k w0 = x at *
          generalize lb.getD k w0 = y at *
          obtain ⟨x0, x1, x2⟩ := x
          obtain ⟨y0, y1, y2⟩ := y
          simp only at *
          go_wp2
          go_quiet (fail)
          go_wp2
          go_roundw
          case rel => exact ⟨k + 1, by omega, by go_num, HT.out, HW.out.drewN nq⟩
          case measure => simp [intOf]; omega
        · have HF := Lib.hid (HD.out hxy)
          rw [decide_eq_false hxy] at hE
          clear HS HD hw hla hlb hxy
          generalize la.getD k w0 = x at *
          generalize lb.getD k w0 = y at *
          obtain ⟨x0, x1, x2⟩ := x
          obtain ⟨y0, y1, y2⟩ := y
          simp only at *
          go_wp2
          go_quiet (fail)
          go_wp2
          go_ret
          refine ⟨?_, HW.out.drewN nq⟩
          rw [decide_eq_false HF.out]
          rfl
      · obtain rfl : k = n := by omega
        have HQ : Hid (la = lb) := by
          have h1 := HE.out
          rw [List.take_of_length_le (by rw [← HN.out]; exact Nat.le_refl _), List.take_of_length_le (by rw [← HL.out, ← HN.out]; exact Nat.le_refl _)] at h1
          exact h1
        have HW := Lib.hid hw
        clear hw
        go_wp2
        go_ret
        exact ⟨by rw [decide_eq_true HQ.out]; rfl, HW.out⟩
  · have HF : Hid (la ≠ lb) := fun e => hl (by rw [e])
    generalize la.length = m at *
    generalize lb.length = n at *
    go_enter Try.func25, Try.ntmps25
    go_wp2
    go_ret
    exact ⟨by rw [decide_eq_false HF.out]; rfl, Kept.refl _ _⟩

/-- A list of numbers in memory. -/
def IsI (w : World) (v : Value) (l : List Int) : Prop :=
  ∃ a cap, v = .slice a l.length cap ∧ ∀ j, j < l.length → ∃ g, a = some ⟨g, 0, none⟩ ∧ w.cell? ⟨g, j, none⟩ = some (.int .i64 (l.getD j 0))
theorem IsI.still {w w' : World} {v : Value} {l : List Int} (h : IsI w v l) (hk : Still w w') : IsI w' v l := by
  obtain ⟨a, c, rfl, h2⟩ := h
  refine ⟨a, c, rfl, fun j hj => ?_⟩
  obtain ⟨g, rfl, c0⟩ := h2 j hj
  exact ⟨g, rfl, hk.cell c0 id⟩
theorem isI_three (w : World) (x y z : Int) : IsI (w.alloc (.cells #[.int .i64 x, .int .i64 y, .int .i64 z] 3)) (.slice (some ⟨w.heap.size, 0, none⟩) 3 3) [x, y, z] := by
  have h := World.alloc_heap_new w (.cells #[.int .i64 x, .int .i64 y, .int .i64 z] 3)
  refine ⟨some ⟨w.heap.size, 0, none⟩, 3, rfl, fun j hj => ⟨w.heap.size, rfl, ?_⟩⟩
  rw [blk_cell h]
  match j, hj with
  | 0, _ => rfl
  | 1, _ => rfl
  | 2, _ => rfl
theorem take_snoc_i {l : List Int} {k : Nat} (h : k < l.length) : l.take (k + 1) = l.take k ++ [l.getD k 0] := by
  rw [List.take_succ_eq_append_getElem h]; simp [List.getD, h]
theorem getD_map_r (l : List Wt) {k : Nat} (h : k < l.length) : (l.map (·.r)).getD k 0 = (l.getD k w0).r := by simp [List.getD, h]

set_option maxHeartbeats 2000000 in
theorem robots_any {w : World} {p : Option Addr} {l : List Wt} {vb : Value} {lb : List Int} (h : QP w p l) (hb : IsI w vb lb) :
    Calls Try.prog 30 #[.pointer p, vb] w fun e w' => e = .returned (.bool (decide (l.map (·.r) = lb))) ∧ Still w w' := by
  have HAll := Lib.hid (all_any h)
  have hl8 := h.len8
  obtain ⟨B, cb, rfl, hcb⟩ := hb
  have HB : Hid (∀ wr, Still w wr → ∀ j, j < lb.length → ∃ g, B = some ⟨g, 0, none⟩ ∧ wr.cell? ⟨g, j, none⟩ = some (.int .i64 (lb.getD j 0))) := by
    intro wr hk j hj
    obtain ⟨g, e, c0⟩ := hcb j hj
    exact ⟨g, e, hk.cell c0 id⟩
  clear hcb h
  go_enter Try.func30, Try.ntmps30
  go_wp2_with fail
  refine HAll.out.mono ?_
  rintro e w1 ⟨v, rfl, hr, hb1⟩
  obtain ⟨A, ca, rfl, hca⟩ := IsW.of_row hr
  have HS1 := Lib.hid (still_of hb1)
  have HA : Hid (∀ wr, Still w1 wr → ∀ j, j < l.length → ∃ g, A = some ⟨g, 0, none⟩ ∧ wr.cell? ⟨g, j * 3, none⟩ = some (.int .i64 (l.getD j w0).r)) := by
    intro wr hk j hj
    obtain ⟨g, e, c0, _⟩ := hca j hj
    exact ⟨g, e, hk.cell c0 id⟩
  clear hb1 hr hca HAll
  by_cases hl : l.length = lb.length
  · rw [← hl] at HB ⊢
    have HL := Lib.hid hl
    clear hl
    obtain ⟨n, hn⟩ : ∃ n, n = l.length := ⟨_, rfl⟩
    rw [← hn] at HA HB hl8 ⊢
    have HN := Lib.hid hn
    clear hn
    go_wp2
    go_loopw [16] (fun u wr => ∃ k : Nat, k ≤ n ∧ u = .int .i64 (k : Int) ∧ (l.map (·.r)).take k = lb.take k ∧ Still w1 wr) (fun u _ => n - (intOf u).toNat)
    case atStart => exact ⟨0, Nat.zero_le _, rfl, by simp, Kept.refl _ _⟩
    case round =>
      obtain ⟨k, hk, rfl, he, hw⟩ := hrel
      have HE := Lib.hid he
      clear he
      by_cases hlt : k < n
      · obtain ⟨ga, rfl, fa0⟩ := HA.out wr hw k hlt
        obtain ⟨gb, rfl, fb0⟩ := HB.out wr (HS1.out.trans hw (fun _ _ h => h)) k hlt
        have HW := Lib.hid hw
        have hla : k < l.length := by rw [← HN.out]; exact hlt
        have hlb : k < lb.length := by rw [← HL.out]; exact hla
        have HS : Hid ((l.getD k w0).r = lb.getD k 0 → (l.map (·.r)).take (k + 1) = lb.take (k + 1)) := by
          intro h
          rw [take_snoc_i (by simpa using hla), take_snoc_i hlb, HE.out, getD_map_r l hla, h]
        have HD : Hid ((l.getD k w0).r ≠ lb.getD k 0 → l.map (·.r) ≠ lb) := by
          rintro h rfl
          exact h (getD_map_r l hla).symm
        have k0 : (0 : Int) ≤ (k : Int) := by omega
        have k1 : (k : Int) < (n : Int) := by omega
        clear hw hla hlb
        generalize (l.getD k w0).r = x at *
        generalize lb.getD k 0 = y at *
        by_cases hxy : x = y
        · have HT := Lib.hid (HS.out hxy)
          clear HS HD
          subst hxy
          go_wp2
          go_quiet (fail)
          go_wp2
          go_roundw
          case rel => exact ⟨k + 1, by omega, by go_num, HT.out, HW.out.drewN nq⟩
          case measure => simp [intOf]; omega
        · have HF := Lib.hid (HD.out hxy)
          have hb1 : (x == y) = false := by simpa using hxy
          have hb2 : (x != y) = true := by simpa using hxy
          clear HS HD
          go_wp2
          go_quiet (fail)
          go_wp2
          go_ret
          refine ⟨?_, (HS1.out.trans HW.out (fun _ _ h => h)).drewN nq⟩
          rw [decide_eq_false HF.out]
          rfl
      · obtain rfl : k = n := by omega
        have HQ : Hid (l.map (·.r) = lb) := by
          have h1 := HE.out
          rw [List.take_of_length_le (by rw [HN.out]; simp), List.take_of_length_le (by rw [← HL.out, ← HN.out]; exact Nat.le_refl _)] at h1
          exact h1
        have HW := Lib.hid (HS1.out.trans hw (fun _ _ h => h))
        clear hw
        go_wp2
        go_ret
        exact ⟨by rw [decide_eq_true HQ.out]; rfl, HW.out⟩
  · have HF : Hid (l.map (·.r) ≠ lb) := fun e => hl (by rw [← e]; simp)
    generalize l.length = m at *
    generalize lb.length = n at *
    go_wp2
    go_ret
    exact ⟨by rw [decide_eq_false HF.out]; rfl, HS1.out⟩

theorem zq {w : World} {cs : Array Value} (h : cs = (csA (pad []) ++ [Value.int .i64 ((0 : Nat) : Int)]).toArray) : QAt (w.alloc (.cells cs 43)) w.heap.size [] := by
  subst h
  exact ⟨by simp, by rfl, World.alloc_heap_new _ _⟩
theorem zq_new (w : World) : ∃ W, w.alloc (.cells #[.int .i64 0, .int .u64 0, .int .i64 0, .int .i64 0, .int .u64 0, .int .i64 0, .int .i64 0, .int .u64 0, .int .i64 0, .int .i64 0, .int .u64 0, .int .i64 0, .int .i64 0, .int .u64 0, .int .i64 0, .int .i64 0, .int .u64 0, .int .i64 0, .int .i64 0, .int .u64 0, .int .i64 0, .int .i64 0, .int .u64 0, .int .i64 0, .int .i64 0] 43) = W ∧ QAt W w.heap.size [] ∧ Still w W := ⟨_, rfl, zq (by rfl), (Kept.refl _ w).alloc _⟩
theorem put_lit {w : World} {o : Nat} {l : List Wt} (h : QAt w o l) (y : Wt) {b : Bool} {l' : List Wt} (h1 : may y = true) (h2 : putB y l = b) (h3 : putL y l = l') :
    Calls Try.prog 14 #[.pointer (some ⟨o, 0, none⟩), .agg #[.int .i64 y.r, .int .u64 y.s, .int .i64 y.p]] w fun e w' => e = .returned (.tuple #[.bool b, .int .i64 0]) ∧ QAt w' o l' ∧ Kept (fun k => k = o) w w' := by
  refine (put_any h y).mono ?_
  rintro e w' ⟨rfl, h4, h5⟩
  rw [h1] at h4
  simp only [if_true] at h4
  subst h2 h3
  exact ⟨by rw [h1]; rfl, h4, h5⟩
def l3 : List Wt := [⟨2, 9, 5⟩, ⟨3, 7, 0⟩, ⟨1, 9, 0⟩]
set_option maxHeartbeats 1000000 in
/-- The chapter's queue. -/
theorem some_any (w : World) : Calls Try.prog 29 #[] w fun e w' => e = .returned (.pointer (some ⟨w.heap.size, 0, none⟩)) ∧ QAt w' w.heap.size l3 ∧ Below w.heap.size w w' := by
  have HZ := Lib.hid (zq_new w)
  go_enter Try.func29, Try.ntmps29
  go_wp2_with fail
  obtain ⟨W, hW, q0, k0'⟩ := HZ.out
  have k0 : Kept (fun k => k = w.heap.size) w W := k0'.mono (fun _ _ h => h.elim)
  rw [hW]
  clear hW HZ
  refine (put_lit q0 ⟨3, 7, 0⟩ (b := true) (l' := [⟨3, 7, 0⟩]) (by decide) (by decide) (by decide)).mono ?_
  rintro e W1 ⟨rfl, q1, k1⟩
  have K1 := Lib.hid (k0.trans k1 (fun _ _ h => h))
  clear q0 k0 k1
  go_wp2_with fail
  refine (put_lit q1 ⟨1, 9, 0⟩ (b := true) (l' := [⟨3, 7, 0⟩, ⟨1, 9, 0⟩]) (by decide) (by decide) (by decide)).mono ?_
  rintro e W2 ⟨rfl, q2, k2⟩
  have K2 := Lib.hid (K1.out.trans k2 (fun _ _ h => h))
  clear q1 K1 k2
  go_wp2_with fail
  refine (put_lit q2 ⟨2, 9, 5⟩ (b := true) (l' := l3) (by decide) (by decide) (by decide)).mono ?_
  rintro e W3 ⟨rfl, q3, k3⟩
  have K3 := Lib.hid (K2.out.trans k3 (fun _ _ h => h))
  have Q3 := Lib.hid q3
  clear q2 K2 k3 q3
  go_wp2
  go_ret
  exact ⟨rfl, Q3.out, K3.out.below (fun k hk => by omega) (Nat.le_refl _)⟩
/-- A clock's Next, not at its end. -/
theorem next_lit {w : World} {b e c : Nat} (h : CkAt w b e c) {n : Int} (he : e ≤ 4294967295) (hc : c < 4294967295) (hn : ((e * 4294967296 + c + 1 : Nat) : Int) = n) :
    Calls Try.prog 12 #[.pointer (some ⟨b, 0, none⟩)] w fun x w' => x = .returned (.tuple #[.int .u64 n, .int .i64 0]) ∧ CkAt w' b e (c + 1) ∧ Kept (fun k => k = b) w w' := by
  refine (next_at h he (by omega)).mono ?_
  rw [if_neg (by omega), if_neg (by omega), if_neg (by omega), hn]
  exact fun _ _ h => h
set_option maxHeartbeats 1000000 in
/-- The chapter's first examples. -/
theorem alive_any (w : World) : Calls Try.prog 31 #[] w fun e w' => e = .returned (.bool true) ∧ Below w.heap.size w w' := by
  have H1 := Lib.hid (ck_new w 2)
  go_enter Try.func31, Try.ntmps31
  go_wp2_with fail
  refine H1.out.mono ?_
  rintro e W1 ⟨rfl, q1, b1, _⟩
  have K1 := Lib.hid (show Kept (fun k => k = w.heap.size) w W1 from Kept.of_below b1 (Nat.le_refl _))
  clear H1 b1
  go_wp2_with fail
  refine (next_lit q1 (n := 8589934593) (by omega) (by omega) (by decide)).mono ?_
  rintro e W2 ⟨rfl, q2, k2⟩
  have K2 := Lib.hid (K1.out.trans k2 (fun _ _ h => h))
  have H3 : Hid (Calls Try.prog 10 #[.pointer (some ⟨w.heap.size, 0, none⟩), .int .u64 9] W2 fun x w' => x = .returned (.tuple #[]) ∧ CkAt w' w.heap.size 2 9 ∧ Kept (fun k => k = w.heap.size) W2 w') := hear_at (n := 9) q2
  clear q1 K1 k2 q2
  go_wp2_with fail
  refine H3.out.mono ?_
  rintro e W3 ⟨rfl, q3, k3⟩
  have K3 := Lib.hid (K2.out.trans k3 (fun _ _ h => h))
  clear K2 k3 H3
  go_wp2_with fail
  refine (next_lit q3 (n := 8589934602) (by omega) (by omega) (by decide)).mono ?_
  rintro e W4 ⟨rfl, _, k4⟩
  have K4 := Lib.hid (K3.out.trans k4 (fun _ _ h => h))
  clear q3 K3 k4
  go_wp2_with fail
  refine (some_any W4).mono ?_
  rintro e W5 ⟨rfl, q5, b5⟩
  have K5 := Lib.hid (K4.out.trans (still_of b5) (fun _ _ h => h.elim))
  have HR : Hid (Calls Try.prog 30 #[.pointer (some ⟨W4.heap.size, 0, none⟩), .slice (some ⟨W5.heap.size, 0, none⟩) 3 3] (W5.alloc (.cells #[.int .i64 2, .int .i64 3, .int .i64 1] 3)) fun e w' => e = .returned (.bool true) ∧ Still (W5.alloc (.cells #[.int .i64 2, .int .i64 3, .int .i64 1] 3)) w') :=
    robots_any (lb := [2, 3, 1]) (.inr ⟨_, rfl, q5.kept ((Kept.refl (fun _ => False) W5).alloc _) id⟩) (isI_three W5 2 3 1)
  clear q5 b5 K4
  go_wp2_with fail
  refine HR.out.mono ?_
  rintro e W6 ⟨rfl, k6⟩
  have K6 := Lib.hid ((K5.out.alloc (.cells #[.int .i64 2, .int .i64 3, .int .i64 1] 3)).trans k6 (fun _ _ h => h.elim))
  clear k6 HR K5
  go_wp2
  go_ret
  exact ⟨rfl, K6.out.below (fun k hk => by omega) (Nat.le_refl _)⟩
end Go.Proofs.Ytnecmlkljijofaa
