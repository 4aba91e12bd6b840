/-
  All claims; lists that are the same; a cell's record.
-/
import Derived.Test.YtijhkjegpcmjoaaCl3
import Derived.Laws.StructEq
import Derived.BigQuiet
import Derived.Deep.QuietTactic
import Derived.Deep.OwnRows
namespace Go.Proofs.Ytijhkjegpcmjoaa
set_option maxRecDepth 100000
set_option linter.unusedSimpArgs false
open Go Go.RowKit Cl

abbrev Still (w w' : World) : Prop := Kept (fun _ => False) w w'
theorem still_of {w w' : World} (h : Below w.heap.size w w') : Still w w' := Kept.of_below h (Nat.le_refl _)
/-- A list of claims in memory. -/
def IsM (w : World) (v : Value) (l : List Cm) : Prop :=
  ∃ a cap, v = .slice a l.length cap ∧ ∀ j, j < l.length → ∃ g, a = some ⟨g, 0, none⟩ ∧ w.cell? ⟨g, j * 2, none⟩ = some (.int .i64 (l.getD j c0).c) ∧ w.cell? ⟨g, j * 2 + 1, none⟩ = some (.int .u32 (l.getD j c0).g)
theorem IsM.kept {w w' : World} {v : Value} {l : List Cm} {X : Nat → Prop} (h : IsM w v l) (hk : Kept X w w') (hX : ∀ k, v.ownBlock = some k → ¬ X k) : IsM w' v l := by
  obtain ⟨a, c, rfl, h2⟩ := h
  refine ⟨a, c, rfl, fun j hj => ?_⟩
  obtain ⟨g, rfl, c0, c1⟩ := h2 j hj
  exact ⟨g, rfl, hk.cell c0 (hX g rfl), hk.cell c1 (hX g rfl)⟩
theorem IsM.still {w w' : World} {v : Value} {l : List Cm} (h : IsM w v l) (hk : Still w w') : IsM w' v l := h.kept hk (fun _ _ => id)
theorem IsM.of_row {w : World} {base : Nat} {v : Value} {l : List Cm} (h : w.ownsRow base 26 2 v l.length (csM l)) : IsM w v l := by
  have h0 := h
  rcases h.2 with ⟨rfl, hl⟩ | ⟨g, cap, cur, rfl, h1, _⟩
  · have : l = [] := List.eq_nil_of_length_eq_zero (by omega)
    subst this
    exact ⟨none, 0, rfl, fun j hj => by simp at hj⟩
  · refine ⟨some ⟨g, 0, none⟩, cap, rfl, fun j hj => ⟨g, rfl, ?_⟩⟩
    have hc : ∀ k, k < 2 → ∀ u, (mc (l.getD j c0))[k]? = some u → w.cell? ⟨g, j * 2 + k, none⟩ = some u := by
      intro k hk u hu
      have := h0.cells (g := g) rfl (j * 2 + k) u (by rw [csM_get hj k hk]; exact hu)
      have e : (⟨g, 0, none⟩ : Addr).add (j * 2 + k) = ⟨g, j * 2 + k, none⟩ := by unfold Addr.add; split <;> simp_all
      rw [e] at this
      exact this
    exact ⟨hc 0 (by omega) _ rfl, hc 1 (by omega) _ rfl⟩
theorem take_snoc_m {l : List Cm} {k : Nat} (h : k < l.length) : l.take (k + 1) = l.take k ++ [l.getD k c0] := by
  rw [List.take_succ_eq_append_getElem h]; simp [List.getD, h]

theorem undM : Try.prog.underlying 26 = some (.struct (Try.prog.fieldsOf 26)) := by kernel_rfl
theorem eqCm (x0 x1 y0 y1 : Int) (w : World) :
    (Op.equalIn 10000 26 (.agg #[.int .i64 x0, .int .u32 x1]) (.agg #[.int .i64 y0, .int .u32 y1])).run Try.prog w = .ok (x0 == y0 && x1 == y1) w := by
  have hi : Try.prog.underlying 3 = some (.int .i64) := by kernel_rfl
  have hu : Try.prog.underlying 24 = some (.int .u32) := by kernel_rfl
  have h1 : ∀ (a b : Int) (w : World), (Op.equalIn 9999 3 (.int .i64 a) (.int .i64 b)).run Try.prog w = .ok (a == b) w := fun a b w => run_equalIn_int w 9998 _ _ _ a b hi
  have h2 : ∀ (a b : Int) (w : World), (Op.equalIn 9999 24 (.int .u32 a) (.int .u32 b)).run Try.prog w = .ok (a == b) w := fun a b w => run_equalIn_int w 9998 _ _ _ a b hu
  rw [run_equalIn_struct w 9999 _ _ _ undM (by kernel_rfl)]
  have hp : ∀ (t : TypeId), (∀ w, (isAgg t).run Try.prog w = .ok false w) → ∀ (xs : Array Value) (i : Nat) (v : Value) (w : World), xs[i]? = some v → (part t xs i).run Try.prog w = .ok v w := by
    intro t ht xs i v w h
    simp only [part, Sem.run_bind, ht, Result.andThen_ok, Bool.false_eq_true, if_false, h, Sem.run_pure]
  have ai : ∀ w, (isAgg 3).run Try.prog w = .ok false w := fun _ => by kernel_rfl
  have au : ∀ w, (isAgg 24).run Try.prog w = .ok false w := fun _ => by kernel_rfl
  have hf : (Try.prog.fieldsOf 26).toList.map (fun f => (decide (f.name = "_"), f.type, f.offset)) = [(false, 3, 0), (false, 24, 1)] := by kernel_rfl
  generalize (Try.prog.fieldsOf 26).toList = fs at *
  rcases fs with _ | ⟨f0, _ | ⟨f1, _ | ⟨f2, fs⟩⟩⟩ <;> simp only [List.map_nil, List.map_cons, List.cons.injEq, Prod.mk.injEq, reduceCtorEq, and_false, false_and, and_true, List.nil_eq, List.cons_ne_nil] at hf
  obtain ⟨⟨n0, t0, o0⟩, ⟨n1, t1, o1⟩⟩ := hf
  have m0 : f0.name ≠ "_" := by simpa using n0
  have m1 : f1.name ≠ "_" := by simpa using n1
  have p0 := fun w => hp _ ai #[.int .i64 x0, .int .u32 x1] 0 (.int .i64 x0) w rfl
  have q0 := fun w => hp _ ai #[.int .i64 y0, .int .u32 y1] 0 (.int .i64 y0) w rfl
  have p1 := fun w => hp _ au #[.int .i64 x0, .int .u32 x1] 1 (.int .u32 x1) w rfl
  have q1 := fun w => hp _ au #[.int .i64 y0, .int .u32 y1] 1 (.int .u32 y1) w rfl
  generalize (#[.int .i64 x0, .int .u32 x1] : Array Value) = XS at *
  generalize (#[.int .i64 y0, .int .u32 y1] : Array Value) = YS at *
  simp only [Op.eqFields, ne_eq, m0, m1, not_false_eq_true, if_true, t0, t1, o0, o1]
  cases e0 : (x0 == y0)
  · simp only [Sem.run_bind, p0, q0, Result.andThen_ok, h1, e0, Bool.not_false, if_true, Sem.run_pure, Bool.false_and]
  simp only [Sem.run_bind, p0, q0, Result.andThen_ok, h1, e0, Bool.not_true, Bool.false_eq_true, if_false, Bool.true_and]
  cases e1 : (x1 == y1)
  · simp only [Sem.run_bind, p1, q1, Result.andThen_ok, h2, e1, Bool.not_false, if_true, Sem.run_pure]
  simp only [Sem.run_bind, p1, q1, Result.andThen_ok, h2, e1, Bool.not_true, Bool.false_eq_true, if_false, Sem.run_pure]

theorem eqCm_iff (a b : Cm) : (a.c == b.c && a.g == b.g) = decide (a = b) := by
  obtain ⟨a0, a1⟩ := a
  obtain ⟨b0, b1⟩ := b
  by_cases h : (⟨a0, a1⟩ : Cm) = ⟨b0, b1⟩
  · cases h; simp
  · rw [decide_eq_false h]
    simp only [Cm.mk.injEq, not_and] at h
    cases e0 : (a0 == b0)
    · rfl
    · cases e1 : (a1 == b1)
      · rfl
      · exact absurd (by simpa using e1) (h (by simpa using e0))

set_option maxHeartbeats 2000000 in
/-- The document's Same. -/
theorem rsame_any {w : World} {va vb : Value} {la lb : List Cm} (ha : IsM w va la) (hb : IsM w vb lb) (h1 : la.length ≤ 100000) :
    Calls Try.prog 15 #[va, vb] w fun e w' => e = .returned (.bool (decide (la = lb))) ∧ ∃ n, w' = w.drewN n := by
  obtain ⟨A, ca, rfl, hca⟩ := ha
  obtain ⟨B, cb, rfl, hcb⟩ := hb
  by_cases hl : la.length = lb.length
  · have HA : Hid (∀ q, ∀ j, j < la.length → ∃ g, A = some ⟨g, 0, none⟩ ∧ (w.drewN q).cell? ⟨g, j * 2, none⟩ = some (.int .i64 (la.getD j c0).c) ∧ (w.drewN q).cell? ⟨g, j * 2 + 1, none⟩ = some (.int .u32 (la.getD j c0).g)) := fun _ j hj => hca j hj
    have HB : Hid (∀ q, ∀ j, j < la.length → ∃ g, B = some ⟨g, 0, none⟩ ∧ (w.drewN q).cell? ⟨g, j * 2, none⟩ = some (.int .i64 (lb.getD j c0).c) ∧ (w.drewN q).cell? ⟨g, j * 2 + 1, none⟩ = some (.int .u32 (lb.getD j c0).g)) := fun _ j hj => hcb j (by omega)
    rw [← hl]
    have HL := Lib.hid hl
    clear hca hcb hl
    obtain ⟨n, hn⟩ : ∃ n, n = la.length := ⟨_, rfl⟩
    rw [← hn] at HA HB h1 ⊢
    have HN := Lib.hid hn
    clear hn
    have hEq : ∀ (x0 x1 y0 y1 : Int) (w : World), (binOp .neq 26 (.agg #[.int .i64 x0, .int .u32 x1]) (.agg #[.int .i64 y0, .int .u32 y1])).run Try.prog w = .ok (.bool (!(x0 == y0 && x1 == y1))) w := fun x0 x1 y0 y1 w => by
      rw [run_neq_struct, eqCm]; rfl
    go_enter Try.func15, Try.ntmps15
    go_wp2
    go_loopw [5] (fun u wr => ∃ k : Nat, k ≤ n ∧ u = .int .i64 (k : Int) ∧ la.take k = lb.take k ∧ ∃ q, wr = w.drewN q) (fun u _ => n - (intOf u).toNat)
    case atStart => exact ⟨0, Nat.zero_le _, rfl, by simp, 0, rfl⟩
    case round =>
      obtain ⟨k, hk, rfl, he, q, rfl⟩ := hrel
      have HE := Lib.hid he
      clear he
      by_cases hlt : k < n
      · obtain ⟨ga, rfl, fa0, fa1⟩ := HA.out q k hlt
        obtain ⟨gb, rfl, fb0, fb1⟩ := HB.out q k hlt
        have hla : k < la.length := by rw [← HN.out]; exact hlt
        have hlb : k < lb.length := by rw [← HL.out]; exact hla
        have HS : Hid (la.getD k c0 = lb.getD k c0 → la.take (k + 1) = lb.take (k + 1)) := by
          intro h
          rw [take_snoc_m hla, take_snoc_m hlb, HE.out, h]
        have HD : Hid (la.getD k c0 ≠ lb.getD k c0 → la ≠ lb) := by
          rintro h rfl
          exact h rfl
        have hE := eqCm_iff (la.getD k c0) (lb.getD k c0)
        have k0 : (0 : Int) ≤ (k : Int) := by omega
        have k1 : (k : Int) < (n : Int) := by omega
        have HDr : Hid (∀ m, ∃ p, (w.drewN q).drewN m = w.drewN p) := fun m => ⟨q + m, by simp [World.drewN, Nat.add_assoc]⟩
        by_cases hxy : la.getD k c0 = lb.getD k c0
        · have HT := Lib.hid (HS.out hxy)
          rw [decide_eq_true hxy] at hE
          clear HS HD hla hlb hxy
          generalize la.getD k c0 = x at *
          generalize lb.getD k c0 = y at *
          obtain ⟨x0, x1⟩ := x
          obtain ⟨y0, y1⟩ := y
          simp only at *
          generalize w.drewN q = wq at *
          go_wp2
          go_quiet (fail)
          go_wp2
          go_roundw
          case rel => exact ⟨k + 1, by omega, by go_num, HT.out, HDr.out nq⟩
          case measure => simp [intOf]; omega
        · have HF := Lib.hid (HD.out hxy)
          rw [decide_eq_false hxy] at hE
          clear HS HD hla hlb hxy
          generalize la.getD k c0 = x at *
          generalize lb.getD k c0 = y at *
          obtain ⟨x0, x1⟩ := x
          obtain ⟨y0, y1⟩ := y
          simp only at *
          generalize w.drewN q = wq at *
          go_wp2
          go_quiet (fail)
          go_wp2
          go_ret
          refine ⟨?_, HDr.out nq⟩
          rw [decide_eq_false HF.out]
          rfl
      · obtain rfl : k = n := by omega
        have HQ : Hid (la = lb) := by
          have h1 := HE.out
          rw [List.take_of_length_le (by rw [← HN.out]; exact Nat.le_refl _), List.take_of_length_le (by rw [← HL.out, ← HN.out]; exact Nat.le_refl _)] at h1
          exact h1
        have HDr : Hid (∃ p, w.drewN q = w.drewN p) := ⟨q, rfl⟩
        generalize w.drewN q = wq at HDr ⊢
        go_wp2
        go_ret
        exact ⟨by rw [decide_eq_true HQ.out]; rfl, HDr.out⟩
  · have HF : Hid (la ≠ lb) := fun e => hl (by rw [e])
    generalize la.length = m at *
    generalize lb.length = n at *
    go_enter Try.func15, Try.ntmps15
    go_wp2
    go_ret
    exact ⟨by rw [decide_eq_false HF.out]; rfl, 0, rfl⟩

theorem Try.infoCm3 : (Try.prog.info? 26).map (fun i => (i.zero, i.size, i.bytes)) = some (some (.agg #[.int .i64 0, .int .u32 0]), 2, 16) := by kernel_rfl
theorem info_parts {P : Program} {t : TypeId} {z : Option Value} {s b : Nat} (h : (P.info? t).map (fun i => (i.zero, i.size, i.bytes)) = some (z, s, b)) : ∃ i0, P.info? t = some i0 ∧ i0.zero = z ∧ i0.size = s ∧ i0.bytes = b := by
  cases hq : P.info? t with
  | none => simp [hq] at h
  | some i =>
    rw [hq] at h
    simp only [Option.map_some, Option.some.injEq, Prod.mk.injEq] at h
    exact ⟨i, rfl, h⟩
theorem clone_any {w : World} {v : Value} {l : List Cm} (h : ThAt w v l) :
    Calls Try.prog 33 #[v] w fun e w' => ∃ v', e = .returned v' ∧ w'.ownsRow w.heap.size 26 2 v' l.length (csM l) ∧ Below w.heap.size w w' := by
  obtain ⟨i0, hi, hz0, hz1, hz2⟩ := info_parts Try.infoCm3
  have q34 : ∀ (w : World) (a : Option Addr) (n c n' c' : Nat), (binOp .eql 42 (.slice a n c) (.slice none n' c')).run Try.prog w = .ok (.bool a.isNone) w := fun w a n c n' c' => Lib.run_eql_slice_nil w _ _ a n c n' c' Try.underlying42
  rcases h with ⟨rfl, rfl⟩ | ⟨b, rfl, h⟩
  · go_enter Try.func33, Try.ntmps33
    go_wp2
    go_ret
    exact ⟨_, rfl, World.ownsRow_nil _ _ _ _, Below.refl _ _⟩
  · have H : Hid (∀ j u, (csM l)[j]? = some u → w.cell? ((⟨b, 0, none⟩ : Addr).add j) = some u) := by
      intro j u hu
      have e : (⟨b, 0, none⟩ : Addr).add j = ⟨b, j, none⟩ := by unfold Addr.add; split <;> simp_all
      have hj := (List.getElem?_eq_some_iff.1 hu).1
      rw [csM_length] at hj
      have h1 : (csM (pad l)).length = 32 := by rw [csM_length, pad_length h.1.len]
      rw [e, blk_cell h.2.2]
      simp only [List.getElem?_toArray]
      rw [List.getElem?_append_left (by have := h.1.len; omega)]
      unfold pad
      rw [csM_append, List.getElem?_append_left (by rw [csM_length]; omega), hu]
    have h1 := csM_one l
    have hlm : (csM l).length = l.length * 2 := csM_length l
    have hl := h.1.len
    clear h
    generalize csM l = xs at *
    generalize l.length = n at *
    go_enter Try.func33, Try.ntmps33
    go_wp2_with (at_builtin; refine wpList_append_own _ rfl _ _ 42 rfl w.heap.size 26 i0 (.agg #[.int .i64 0, .int .u32 0]) 2 16 Try.underlying42 hi hz0 hz1 hz2 rfl (by decide) _ _ _ rfl (World.ownsRow_made w #[] 0 (Nat.le_refl _) (Nat.zero_le _) (by simp)) ⟨b, 0, none⟩ n 16 xs rfl ?qc1 ?qc2 ?qc3 ?qc4 ?qc5 ?qc6 ?_)
    case qc1 => exact hlm
    case qc2 =>
      intro j u hj
      exact Lib.cell?_alloc_some _ (H.out j u hj)
    case qc3 => exact h1
    case qc4 => unfold maxLen; omega
    case qc5 => omega
    case qc6 => simp
    intro v' w1 hown hgrow _
    go_wp2
    go_ret
    exact ⟨v', rfl, by simpa using hown, ((Below.refl _ w).alloc (Nat.le_refl _) _).grown hgrow (by simp) (by intro k hk; simp [Value.ownBlock] at hk; omega)⟩
theorem all_any {w : World} {p : Option Addr} {l : List Cm} (h : CP w p l) :
    Calls Try.prog 19 #[.pointer p] w fun e w' => ∃ v', e = .returned v' ∧ w'.ownsRow w.heap.size 26 2 v' l.length (csM l) ∧ Below w.heap.size w w' := by
  have HT := Lib.hid (there_any h)
  clear h
  go_enter Try.func19, Try.ntmps19
  go_wp2_with fail
  refine HT.out.mono ?_
  rintro e W1 ⟨⟨v, rfl, hv⟩, hB⟩
  have HC := Lib.hid (clone_any hv)
  clear HT hv
  go_wp2_with fail
  refine HC.out.mono ?_
  rintro e W2 ⟨v', rfl, hr, hB2⟩
  have HF : Hid (W2.ownsRow w.heap.size 26 2 v' l.length (csM l) ∧ Below w.heap.size w W2) := by
    refine ⟨?_, hB.trans (hB2.mono hB.size)⟩
    refine ⟨hr.1, ?_⟩
    rcases hr.2 with hn | ⟨g, cap, cur, e1, hb, rest⟩
    · exact .inl hn
    · exact .inr ⟨g, cap, cur, e1, Nat.le_trans hB.size hb, rest⟩
  clear HC hr hB hB2
  go_wp2
  go_ret
  exact ⟨_, rfl, HF.out⟩
end Go.Proofs.Ytijhkjegpcmjoaa
