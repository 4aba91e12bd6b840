/-
  Two arrays of nine numbers: are they the same?
-/
import Derived.Test.YtfgajjfcjlejmaaDoorWr1
import Derived.Laws.StructEq
namespace Go.Proofs.YtfgajjfcjlejmaaDoor
set_option maxRecDepth 100000
set_option linter.unusedSimpArgs false
open Go Go.RowKit Wr

theorem und9 : Tryd.prog.underlying 125 = some (.array 9 2) := by kernel_rfl
theorem size64 (w : World) : (sizeOf 2).run Tryd.prog w = .ok 1 w := by kernel_rfl
theorem eqD (D : Nat) (hD : ∀ (a b : Int) (w : World), (Op.equalIn D 2 (.int .i64 a) (.int .i64 b)).run Tryd.prog w = .ok (a == b) w) (f0 f1 f2 f3 f4 f5 f6 f7 f8 g0 g1 g2 g3 g4 g5 g6 g7 g8 : Int) (w : World) :
    (Op.equalIn (D + 1) 125 (.agg #[.int .i64 f0, .int .i64 f1, .int .i64 f2, .int .i64 f3, .int .i64 f4, .int .i64 f5, .int .i64 f6, .int .i64 f7, .int .i64 f8]) (.agg #[.int .i64 g0, .int .i64 g1, .int .i64 g2, .int .i64 g3, .int .i64 g4, .int .i64 g5, .int .i64 g6, .int .i64 g7, .int .i64 g8])).run Tryd.prog w = .ok (f0 == g0 && (f1 == g1 && (f2 == g2 && (f3 == g3 && (f4 == g4 && (f5 == g5 && (f6 == g6 && (f7 == g7 && (f8 == g8))))))))) w := by
  have hp : ∀ (xs : Array Value) (i : Nat) (a : Int) (w : World), xs[i]? = some (.int .i64 a) → (part 2 xs i).run Tryd.prog w = .ok (.int .i64 a) w := by
    intro xs i a w h
    have ha : (isAgg 2).run Tryd.prog w = .ok false w := by kernel_rfl
    simp only [part, Sem.run_bind, ha, Result.andThen_ok, Bool.false_eq_true, if_false, h, Sem.run_pure]
  simp only [Op.equalIn, Sem.run_bind, run_underlying und9, Result.andThen_ok, size64]
  obtain ⟨XS, hX⟩ : ∃ XS : Array Value, XS = #[.int .i64 f0, .int .i64 f1, .int .i64 f2, .int .i64 f3, .int .i64 f4, .int .i64 f5, .int .i64 f6, .int .i64 f7, .int .i64 f8] := ⟨_, rfl⟩
  obtain ⟨YS, hY⟩ : ∃ YS : Array Value, YS = #[.int .i64 g0, .int .i64 g1, .int .i64 g2, .int .i64 g3, .int .i64 g4, .int .i64 g5, .int .i64 g6, .int .i64 g7, .int .i64 g8] := ⟨_, rfl⟩
  rw [← hX, ← hY]
  have p0 : ∀ w, (part 2 XS (0 * 1)).run Tryd.prog w = .ok (.int .i64 f0) w := fun w => hp XS _ _ w (by rw [hX]; rfl)
  have q0 : ∀ w, (part 2 YS (0 * 1)).run Tryd.prog w = .ok (.int .i64 g0) w := fun w => hp YS _ _ w (by rw [hY]; rfl)
  have p1 : ∀ w, (part 2 XS (1 * 1)).run Tryd.prog w = .ok (.int .i64 f1) w := fun w => hp XS _ _ w (by rw [hX]; rfl)
  have q1 : ∀ w, (part 2 YS (1 * 1)).run Tryd.prog w = .ok (.int .i64 g1) w := fun w => hp YS _ _ w (by rw [hY]; rfl)
  have p2 : ∀ w, (part 2 XS (2 * 1)).run Tryd.prog w = .ok (.int .i64 f2) w := fun w => hp XS _ _ w (by rw [hX]; rfl)
  have q2 : ∀ w, (part 2 YS (2 * 1)).run Tryd.prog w = .ok (.int .i64 g2) w := fun w => hp YS _ _ w (by rw [hY]; rfl)
  have p3 : ∀ w, (part 2 XS (3 * 1)).run Tryd.prog w = .ok (.int .i64 f3) w := fun w => hp XS _ _ w (by rw [hX]; rfl)
  have q3 : ∀ w, (part 2 YS (3 * 1)).run Tryd.prog w = .ok (.int .i64 g3) w := fun w => hp YS _ _ w (by rw [hY]; rfl)
  have p4 : ∀ w, (part 2 XS (4 * 1)).run Tryd.prog w = .ok (.int .i64 f4) w := fun w => hp XS _ _ w (by rw [hX]; rfl)
  have q4 : ∀ w, (part 2 YS (4 * 1)).run Tryd.prog w = .ok (.int .i64 g4) w := fun w => hp YS _ _ w (by rw [hY]; rfl)
  have p5 : ∀ w, (part 2 XS (5 * 1)).run Tryd.prog w = .ok (.int .i64 f5) w := fun w => hp XS _ _ w (by rw [hX]; rfl)
  have q5 : ∀ w, (part 2 YS (5 * 1)).run Tryd.prog w = .ok (.int .i64 g5) w := fun w => hp YS _ _ w (by rw [hY]; rfl)
  have p6 : ∀ w, (part 2 XS (6 * 1)).run Tryd.prog w = .ok (.int .i64 f6) w := fun w => hp XS _ _ w (by rw [hX]; rfl)
  have q6 : ∀ w, (part 2 YS (6 * 1)).run Tryd.prog w = .ok (.int .i64 g6) w := fun w => hp YS _ _ w (by rw [hY]; rfl)
  have p7 : ∀ w, (part 2 XS (7 * 1)).run Tryd.prog w = .ok (.int .i64 f7) w := fun w => hp XS _ _ w (by rw [hX]; rfl)
  have q7 : ∀ w, (part 2 YS (7 * 1)).run Tryd.prog w = .ok (.int .i64 g7) w := fun w => hp YS _ _ w (by rw [hY]; rfl)
  have p8 : ∀ w, (part 2 XS (8 * 1)).run Tryd.prog w = .ok (.int .i64 f8) w := fun w => hp XS _ _ w (by rw [hX]; rfl)
  have q8 : ∀ w, (part 2 YS (8 * 1)).run Tryd.prog w = .ok (.int .i64 g8) w := fun w => hp YS _ _ w (by rw [hY]; rfl)
  clear hX hY hp
  simp only [Std.Legacy.Range.forIn_eq_forIn_range', Std.Legacy.Range.size, Nat.sub_zero, Nat.add_sub_cancel, Nat.div_one, List.range'_succ, List.range'_zero, List.forIn_cons, List.forIn_nil, Nat.zero_add, Nat.reduceAdd]
  cases e0 : (f0 == g0)
  · simp only [Sem.run_bind, p0, q0, Result.andThen_ok, hD, e0, Bool.not_false, if_true, Sem.run_pure, Bool.false_and, Bool.and_false, Bool.true_and]
  simp only [Sem.run_bind, p0, q0, Result.andThen_ok, hD, e0, Bool.not_true, Bool.false_eq_true, if_false, Sem.run_pure, Bool.true_and]
  cases e1 : (f1 == g1)
  · simp only [Sem.run_bind, p1, q1, Result.andThen_ok, hD, e1, Bool.not_false, if_true, Sem.run_pure, Bool.false_and, Bool.and_false, Bool.true_and]
  simp only [Sem.run_bind, p1, q1, Result.andThen_ok, hD, e1, Bool.not_true, Bool.false_eq_true, if_false, Sem.run_pure, Bool.true_and]
  cases e2 : (f2 == g2)
  · simp only [Sem.run_bind, p2, q2, Result.andThen_ok, hD, e2, Bool.not_false, if_true, Sem.run_pure, Bool.false_and, Bool.and_false, Bool.true_and]
  simp only [Sem.run_bind, p2, q2, Result.andThen_ok, hD, e2, Bool.not_true, Bool.false_eq_true, if_false, Sem.run_pure, Bool.true_and]
  cases e3 : (f3 == g3)
  · simp only [Sem.run_bind, p3, q3, Result.andThen_ok, hD, e3, Bool.not_false, if_true, Sem.run_pure, Bool.false_and, Bool.and_false, Bool.true_and]
  simp only [Sem.run_bind, p3, q3, Result.andThen_ok, hD, e3, Bool.not_true, Bool.false_eq_true, if_false, Sem.run_pure, Bool.true_and]
  cases e4 : (f4 == g4)
  · simp only [Sem.run_bind, p4, q4, Result.andThen_ok, hD, e4, Bool.not_false, if_true, Sem.run_pure, Bool.false_and, Bool.and_false, Bool.true_and]
  simp only [Sem.run_bind, p4, q4, Result.andThen_ok, hD, e4, Bool.not_true, Bool.false_eq_true, if_false, Sem.run_pure, Bool.true_and]
  cases e5 : (f5 == g5)
  · simp only [Sem.run_bind, p5, q5, Result.andThen_ok, hD, e5, Bool.not_false, if_true, Sem.run_pure, Bool.false_and, Bool.and_false, Bool.true_and]
  simp only [Sem.run_bind, p5, q5, Result.andThen_ok, hD, e5, Bool.not_true, Bool.false_eq_true, if_false, Sem.run_pure, Bool.true_and]
  cases e6 : (f6 == g6)
  · simp only [Sem.run_bind, p6, q6, Result.andThen_ok, hD, e6, Bool.not_false, if_true, Sem.run_pure, Bool.false_and, Bool.and_false, Bool.true_and]
  simp only [Sem.run_bind, p6, q6, Result.andThen_ok, hD, e6, Bool.not_true, Bool.false_eq_true, if_false, Sem.run_pure, Bool.true_and]
  cases e7 : (f7 == g7)
  · simp only [Sem.run_bind, p7, q7, Result.andThen_ok, hD, e7, Bool.not_false, if_true, Sem.run_pure, Bool.false_and, Bool.and_false, Bool.true_and]
  simp only [Sem.run_bind, p7, q7, Result.andThen_ok, hD, e7, Bool.not_true, Bool.false_eq_true, if_false, Sem.run_pure, Bool.true_and]
  cases e8 : (f8 == g8)
  · simp only [Sem.run_bind, p8, q8, Result.andThen_ok, hD, e8, Bool.not_false, if_true, Sem.run_pure, Bool.false_and, Bool.and_false, Bool.true_and]
  simp only [Sem.run_bind, p8, q8, Result.andThen_ok, hD, e8, Bool.not_true, Bool.false_eq_true, if_false, Sem.run_pure, Bool.true_and]
theorem eq9 (f0 f1 f2 f3 f4 f5 f6 f7 f8 g0 g1 g2 g3 g4 g5 g6 g7 g8 : Int) (w : World) :
    (Op.equalIn 10000 125 (.agg #[.int .i64 f0, .int .i64 f1, .int .i64 f2, .int .i64 f3, .int .i64 f4, .int .i64 f5, .int .i64 f6, .int .i64 f7, .int .i64 f8]) (.agg #[.int .i64 g0, .int .i64 g1, .int .i64 g2, .int .i64 g3, .int .i64 g4, .int .i64 g5, .int .i64 g6, .int .i64 g7, .int .i64 g8])).run Tryd.prog w = .ok (f0 == g0 && (f1 == g1 && (f2 == g2 && (f3 == g3 && (f4 == g4 && (f5 == g5 && (f6 == g6 && (f7 == g7 && (f8 == g8))))))))) w := by
  have h64 : Tryd.prog.underlying 2 = some (.int .i64) := by kernel_rfl
  exact eqD 9999 (fun a b w => run_equalIn_int w 9998 _ _ _ a b h64) _ _ _ _ _ _ _ _ _ _ _ _ _ _ _ _ _ _ w
end Go.Proofs.YtfgajjfcjlejmaaDoor
