/-
  The home's cells, told; whether a claim is there; New, Renewed.
-/
import Derived.Test.YtlmbbnkdiokabaaDoorLgC
namespace Go.Proofs.YtlmbbnkdiokabaaDoor
set_option maxRecDepth 100000
set_option linter.unusedSimpArgs false
open Go Go.RowKit Sp Lg
attribute [local go_sem] Oper.semAt_some

def ivl : Value → Int
  | .int _ x => x
  | _ => 0
theorem own_fn (w : World) (b : Nat) : Calls Tryd.prog 48 #[.pointer (some ⟨b, 0, none⟩)] w fun e w' => e = .returned (.func (.func 66) #[] #[.pointer (some ⟨w.heap.size, 0, none⟩)]) ∧ w' = w.alloc (.cells #[.pointer (some ⟨b, 0, none⟩)] 27) := by
  go_enter Tryd.func48, Tryd.ntmps48
  go_wp2
  go_ret
  exact ⟨rfl, rfl⟩
set_option maxHeartbeats 1000000 in
theorem own_run (n l bl b : Nat) (h R C : Int) (hn : 1 ≤ n) (h0 : 0 ≤ h) (hR0 : 1 ≤ R) (hR : R ≤ 64) (hhR : h < R) (hC : C ≤ 1024) (hC0 : 1 ≤ C) {W : World} {J : Nat → World → Prop} {Jx : World → Prop}
    (hJ : ∀ k V, J k V → V.cell? ⟨bl, 0, none⟩ = some (.pointer (some ⟨b, 0, none⟩)) ∧ V.cell? ⟨b, 0, none⟩ = some (.int .i64 h) ∧ V.cell? ⟨b, 1, none⟩ = some (.int .i64 R) ∧ V.cell? ⟨b, 2, none⟩ = some (.int .i64 C))
    (hY : ∀ (k : Nat) V, J k V → h + k * R < C → YieldAt Fence.wide (n - 1) Tryd.prog l #[.int .i64 (h + k * R)] V fun e V' => (e = .returned (.bool true) ∧ J (k + 1) V') ∨ (e = .returned (.bool false) ∧ Jx V'))
    (hz : J 0 W) :
    CallsIn Fence.wide n Tryd.prog 66 #[.func (.yield l) #[] #[], .pointer (some ⟨bl, 0, none⟩)] W fun e W' => (∃ v, e = .returned v) ∧ ((∃ k : Nat, C ≤ h + k * R ∧ J k W') ∨ Jx W') := by
  have HJ := Lib.hid hJ
  have HY := Lib.hid hY
  have HZ := Lib.hid hz
  obtain ⟨Q, hQ⟩ : ∃ Q : Ending → World → Prop, Q = fun e W' => (∃ v, e = .returned v) ∧ ((∃ k : Nat, C ≤ h + k * R ∧ J k W') ∨ Jx W') := ⟨_, rfl⟩
  have HQ1 : Hid (∀ (k : Nat) W', C ≤ h + k * R → J k W' → Q (.returned (.tuple #[])) W') := by rw [hQ]; exact fun k W' h1 h2 => ⟨⟨_, rfl⟩, .inl ⟨k, h1, h2⟩⟩
  have HQ2 : Hid (∀ W', Jx W' → Q (.returned (.tuple #[])) W') := by rw [hQ]; exact fun W' h2 => ⟨⟨_, rfl⟩, .inr h2⟩
  rw [← hQ]
  clear hQ
  obtain ⟨a0, a1, a2, a3⟩ := hJ 0 W hz
  have HB := Lib.hid (And.intro h0 (And.intro hR0 (And.intro hR (And.intro hhR (And.intro hC hC0)))))
  clear hJ hY hz hC hhR hR hC0 hR0
  refine callsIn_of_wp Tryd.func66 rfl trivial ?_ rfl
  simp only [Tryd.ntmps66, List.size_toArray, List.length_cons, List.length_nil, Nat.reduceAdd, Nat.reduceSub, Array.replicate_succ, Array.replicate_zero, List.push_toArray, List.append_toArray, List.nil_append, List.cons_append]
  gi_wp2
  gi_loopw [3] (fun i wr => ∃ k : Nat, i = .int .i64 (h + k * R) ∧ h + k * R ≤ C + 64 ∧ J k wr) (fun i _ => 3000 - (ivl i).toNat)
  case atStart => exact ⟨0, by simp, by have := HB.out; simp; omega, HZ.out⟩
  case round =>
    obtain ⟨k, rfl, hle, hJ⟩ := hrel
    obtain ⟨c0, c1, c2, c3⟩ := HJ.out k _ hJ
    have hkR : 0 ≤ (k : Int) * R := Int.mul_nonneg (by omega) (by have := HB.out; omega)
    have HJ1 := Lib.hid hJ
    clear hJ
    by_cases hlt : h + k * R < C
    · have e1 : decide (h + k * R < C) = true := by simpa using hlt
      obtain ⟨fn, tmps, assign, body, hy, hYR⟩ := HY.out k _ HJ1.out hlt
      have HYR := Lib.hid hYR
      have HN : Hid (h + ((k + 1 : Nat) : Int) * R = h + k * R + R) := by
        have : ((k + 1 : Nat) : Int) * R = k * R + R := by push_cast; rw [Int.add_mul, Int.one_mul]
        rw [Hid, this]; omega
      have hB := HB.out
      have ew : IntKind.i64.wrap (h + k * R + R) = h + k * R + R := IntWalk.i64_in _ (by omega)
      have HM : Hid (h + k * R + R ≤ C + 64 ∧ 3000 - (h + k * R + R).toNat < 3000 - (h + k * R).toNat) := ⟨by omega, by omega⟩
      clear hYR hB hle hlt hkR
      generalize h + k * R = x at *
      gi_wp2
      refine HYR.out.mono ?_
      rintro e V' (⟨rfl, hJ2⟩ | ⟨rfl, hx⟩)
      · obtain ⟨d0, d1, d2, d3⟩ := HJ.out (k + 1) _ hJ2
        have HJ2 := Lib.hid hJ2
        clear hJ2 HYR hy
        gi_wp2
        go_roundw
        case rel => exact ⟨k + 1, by rw [HN.out], by rw [HN.out]; exact HM.out.1, HJ2.out⟩
        case measure => simp only [ivl]; exact HM.out.2
      · have HF := Lib.hid (HQ2.out V' hx)
        clear hx HYR hy
        gi_wp2
        exact bodyPost_ret (results_none rfl _ _ _) rfl HF.out
    · have e1 : decide (h + k * R < C) = false := by simpa using hlt
      have HF := Lib.hid (HQ1.out k _ (by omega) HJ1.out)
      clear hlt hle hkR
      generalize h + k * R = x at *
      gi_wp2
      exact bodyPost_end (results_none rfl _ _ _) rfl HF.out

/-- Claims at an address. -/
def ClAt (w : World) (A : Option Addr) (l : List (Int × Int)) : Prop := ∀ j, j < l.length → ∃ a, A = some a ∧ w.cell? (a.add (j * 2)) = some (.int .i64 (l.getD j (0, 0)).1) ∧ w.cell? ⟨(a.add (j * 2)).block, (a.add (j * 2)).off + 1, none⟩ = some (.int .u32 (l.getD j (0, 0)).2)
theorem undC : Tryd.prog.underlying 115 = some (.struct (Tryd.prog.fieldsOf 115)) := by kernel_rfl
theorem eqCl (x0 x1 y0 y1 : Int) (w : World) :
    (Op.equalIn 10000 115 (.agg #[.int .i64 x0, .int .u32 x1]) (.agg #[.int .i64 y0, .int .u32 y1])).run Tryd.prog w = .ok (x0 == y0 && x1 == y1) w := by
  have hi : Tryd.prog.underlying 3 = some (.int .i64) := by kernel_rfl
  have hu : Tryd.prog.underlying 37 = some (.int .u32) := by kernel_rfl
  have h1 : ∀ (a b : Int) (w : World), (Op.equalIn 9999 3 (.int .i64 a) (.int .i64 b)).run Tryd.prog w = .ok (a == b) w := fun a b w => run_equalIn_int w 9998 _ _ _ a b hi
  have h2 : ∀ (a b : Int) (w : World), (Op.equalIn 9999 37 (.int .u32 a) (.int .u32 b)).run Tryd.prog w = .ok (a == b) w := fun a b w => run_equalIn_int w 9998 _ _ _ a b hu
  rw [run_equalIn_struct w 9999 _ _ _ undC (by kernel_rfl)]
  have hp : ∀ (t : TypeId), (∀ w, (isAgg t).run Tryd.prog w = .ok false w) → ∀ (xs : Array Value) (i : Nat) (v : Value) (w : World), xs[i]? = some v → (part t xs i).run Tryd.prog w = .ok v w := by
    intro t ht xs i v w h
    simp only [part, Sem.run_bind, ht, Result.andThen_ok, Bool.false_eq_true, if_false, h, Sem.run_pure]
  have ai : ∀ w, (isAgg 3).run Tryd.prog w = .ok false w := fun _ => by kernel_rfl
  have au : ∀ w, (isAgg 37).run Tryd.prog w = .ok false w := fun _ => by kernel_rfl
  have hf : (Tryd.prog.fieldsOf 115).toList.map (fun f => (decide (f.name = "_"), f.type, f.offset)) = [(false, 3, 0), (false, 37, 1)] := by kernel_rfl
  generalize (Tryd.prog.fieldsOf 115).toList = fs at *
  rcases fs with _ | ⟨f0, _ | ⟨f1, _ | ⟨f2, fs⟩⟩⟩ <;> simp only [List.map_nil, List.map_cons, List.cons.injEq, Prod.mk.injEq, reduceCtorEq, and_false, false_and, and_true, List.nil_eq, List.cons_ne_nil] at hf
  obtain ⟨⟨n0, t0, o0⟩, ⟨n1, t1, o1⟩⟩ := hf
  have m0 : f0.name ≠ "_" := by simpa using n0
  have m1 : f1.name ≠ "_" := by simpa using n1
  have p0 := fun w => hp _ ai #[.int .i64 x0, .int .u32 x1] 0 (.int .i64 x0) w rfl
  have q0 := fun w => hp _ ai #[.int .i64 y0, .int .u32 y1] 0 (.int .i64 y0) w rfl
  have p1 := fun w => hp _ au #[.int .i64 x0, .int .u32 x1] 1 (.int .u32 x1) w rfl
  have q1 := fun w => hp _ au #[.int .i64 y0, .int .u32 y1] 1 (.int .u32 y1) w rfl
  generalize (#[.int .i64 x0, .int .u32 x1] : Array Value) = XS at *
  generalize (#[.int .i64 y0, .int .u32 y1] : Array Value) = YS at *
  simp only [Op.eqFields, ne_eq, m0, m1, not_false_eq_true, if_true, t0, t1, o0, o1]
  cases e0 : (x0 == y0)
  · simp only [Sem.run_bind, p0, q0, Result.andThen_ok, h1, e0, Bool.not_false, if_true, Sem.run_pure, Bool.false_and]
  simp only [Sem.run_bind, p0, q0, Result.andThen_ok, h1, e0, Bool.not_true, Bool.false_eq_true, if_false, Bool.true_and]
  cases e1 : (x1 == y1)
  · simp only [Sem.run_bind, p1, q1, Result.andThen_ok, h2, e1, Bool.not_false, if_true, Sem.run_pure]
  simp only [Sem.run_bind, p1, q1, Result.andThen_ok, h2, e1, Bool.not_true, Bool.false_eq_true, if_false, Sem.run_pure]
/-- Whether a claim is among claims. -/
theorem clain_any {w : World} {A : Option Addr} {l : List (Int × Int)} {cap : Nat} (h : ∀ V, Below w.heap.size w V → ClAt V A l) (hl : l.length ≤ 1000000) (c g : Int) :
    Calls Tryd.prog 67 #[.slice A l.length cap, .agg #[.int .i64 c, .int .u32 g]] w fun e w' => (∃ i : Int, e = .returned (.int .i64 i) ∧ decide (0 ≤ i) = decide ((c, g) ∈ l)) ∧ Below w.heap.size w w' := by
  obtain ⟨o1, ho1⟩ : ∃ o1 : Obj, o1 = .cells #[.int .i64 c, .int .u32 g] 115 := ⟨_, rfl⟩
  have k1 : (w.alloc o1).heap[w.heap.size]? = some o1 := World.alloc_heap_new w o1
  have hb1 := alloc_below w o1
  obtain ⟨R, hR⟩ : ∃ R : Ending → World → Prop, R = fun e w' => (∃ i : Int, e = .returned (.int .i64 i) ∧ decide (0 ≤ i) = decide ((c, g) ∈ l)) ∧ Below w.heap.size w w' := ⟨_, rfl⟩
  have HR1 : Hid (∀ (i : Nat) w', (c, g) ∈ l → Below w.heap.size w w' → R (.returned (.int .i64 (i : Int))) w') := by
    rw [hR]; exact fun i w' h1 h2 => ⟨⟨_, rfl, by rw [decide_eq_true h1, decide_eq_true (by omega)]⟩, h2⟩
  have HR2 : Hid (∀ w', (c, g) ∉ l → Below w.heap.size w w' → R (.returned (.int .i64 (-1))) w') := by
    rw [hR]; exact fun w' h1 h2 => ⟨⟨_, rfl, by rw [decide_eq_false h1]; rfl⟩, h2⟩
  rw [← hR]
  clear hR
  have HH := Lib.hid h
  have HB1 := Lib.hid hb1
  have HK : Hid (∀ V, Below (w.alloc o1).heap.size (w.alloc o1) V → V.cell? ⟨w.heap.size, 0, none⟩ = some (.int .i64 c) ∧ V.cell? ⟨w.heap.size, 1, none⟩ = some (.int .u32 g)) := by
    intro V hV
    have j := (hV.block _ (blk_lt k1)).trans k1
    rw [ho1] at j
    exact ⟨by rw [blk_cell j]; rfl, by rw [blk_cell j]; rfl⟩
  have q8 := eqCl
  have HO := Lib.hid ho1
  clear h hb1 k1
  obtain ⟨n, hn⟩ : ∃ n, n = l.length := ⟨_, rfl⟩
  have HN := Lib.hid hn
  rw [← hn] at hl ⊢
  clear hn
  rw [ho1] at HK HB1
  go_enter Tryd.func67, Tryd.ntmps67
  go_wp2
  go_loopw [8] (fun u wr => ∃ k : Nat, k ≤ n ∧ u = .int .i64 (k : Int) ∧ (c, g) ∉ l.take k ∧ Below (w.alloc (.cells #[.int .i64 c, .int .u32 g] 115)).heap.size (w.alloc (.cells #[.int .i64 c, .int .u32 g] 115)) wr) (fun u _ => n - (ivl u).toNat)
  case atStart => exact ⟨0, Nat.zero_le _, rfl, by simp, Below.refl _ _⟩
  case round =>
    obtain ⟨k, hk, rfl, he, hw⟩ := hrel
    obtain ⟨b0, b1⟩ := HK.out _ hw
    have HE := Lib.hid he
    have HW := Lib.hid hw
    by_cases hlt : k < n
    · have hlk : k < l.length := by rw [← HN.out]; exact hlt
      obtain ⟨a, rfl, c0, c1⟩ := HH.out _ (HB1.out.trans (hw.mono HB1.out.size)) k hlk
      have HS : Hid (l.take (k + 1) = l.take k ++ [l.getD k (0, 0)]) := by
        rw [Hid, List.take_succ_eq_append_getElem hlk]; simp [List.getD, hlk]
      have HM : Hid (l.getD k (0, 0) ∈ l) := by
        rw [Hid, show l.getD k (0, 0) = l[k] by simp [List.getD, hlk]]; exact List.getElem_mem hlk
      have HD : Hid (Below w.heap.size w _) := HB1.out.trans (hw.drew.mono HB1.out.size)
      have HWD : Hid (Below _ _ _) := hw.drew
      rename World => wr
      have b0' : wr.drew.cell? ⟨w.heap.size, 0, none⟩ = _ := b0
      have b1' : wr.drew.cell? ⟨w.heap.size, 1, none⟩ = _ := b1
      have c0' : wr.drew.cell? (a.add (k * 2)) = _ := c0
      have c1' : wr.drew.cell? ⟨(a.add (k * 2)).block, (a.add (k * 2)).off + 1, none⟩ = _ := c1
      have k0 : (0 : Int) ≤ (k : Int) := by omega
      have k1 : (k : Int) < (n : Int) := by omega
      have d1 : decide ((k : Int) < (n : Int)) = true := by simpa using k1
      have ew : IntKind.i64.wrap ((k : Int) + 1) = (k : Int) + 1 := IntWalk.i64_in _ (by omega)
      cases e9 : (c == (l.getD k (0, 0)).1 && g == (l.getD k (0, 0)).2) with
      | true =>
        have hF : (c, g) ∈ l := by
          simp only [Bool.and_eq_true, beq_iff_eq] at e9
          have : (c, g) = l.getD k (0, 0) := by rw [e9.1, e9.2]
          rw [this]; exact HM.out
        have HF := Lib.hid (HR1.out k _ hF HD.out)
        clear hF he hw
        generalize (l.getD k (0, 0)).1 = x0 at *
        generalize (l.getD k (0, 0)).2 = x1 at *
        go_wp2_with fail
        go_region
        all_goals
          go_wp2
          exact HF.out
      | false =>
        have hF : (c, g) ∉ l.take (k + 1) := by
          rw [HS.out, List.mem_append]
          rintro (h | h)
          · exact HE.out h
          · have : (c, g) = l.getD k (0, 0) := by simpa using h
            rw [← this] at e9
            simp at e9
        have HF := Lib.hid hF
        clear hF he hw HS
        generalize (l.getD k (0, 0)).1 = x0 at *
        generalize (l.getD k (0, 0)).2 = x1 at *
        go_wp2_with fail
        go_region
        all_goals
          go_wp2
          go_roundw
          case rel => exact ⟨k + 1, by omega, by push_cast; rfl, HF.out, HWD.out⟩
          case measure => simp only [ivl]; omega
    · obtain rfl : k = n := by omega
      have hF : (c, g) ∉ l := by rw [List.take_of_length_le (by rw [← HN.out]; exact Nat.le_refl _)] at he; exact he
      have HF := Lib.hid (HR2.out _ hF (HB1.out.trans (hw.mono HB1.out.size)))
      have d1 : decide ((k : Int) < (k : Int)) = false := by simp
      clear hF he hw
      go_wp2
      exact HF.out
theorem contains_any {w : World} {A : Option Addr} {l : List (Int × Int)} {cap : Nat} (h : ∀ V, Below w.heap.size w V → ClAt V A l) (hl : l.length ≤ 1000000) (c g : Int) :
    Calls Tryd.prog 49 #[.slice A l.length cap, .agg #[.int .i64 c, .int .u32 g]] w fun e w' => e = .returned (.bool (decide ((c, g) ∈ l))) ∧ Below w.heap.size w w' := by
  obtain ⟨o1, ho1⟩ : ∃ o1 : Obj, o1 = .cells #[.int .i64 c, .int .u32 g] 115 := ⟨_, rfl⟩
  have hb1 := alloc_below w o1
  have HI : Hid (Calls Tryd.prog 67 #[.slice A l.length cap, .agg #[.int .i64 c, .int .u32 g]] (w.alloc o1) fun e w' => ∃ i : Int, e = .returned (.int .i64 i) ∧ decide (0 ≤ i) = decide ((c, g) ∈ l) ∧ Below w.heap.size w w') := by
    refine (clain_any (fun V hV => h V (hb1.trans (hV.mono hb1.size))) hl c g).mono ?_
    rintro e w' ⟨⟨i, rfl, h1⟩, h2⟩
    exact ⟨i, rfl, h1, hb1.trans (h2.mono hb1.size)⟩
  rw [ho1] at HI
  clear h hl hb1
  generalize l.length = n at *
  generalize decide ((c, g) ∈ l) = d at *
  go_enter Tryd.func49, Tryd.ntmps49
  go_wp2_with fail
  refine HI.out.mono ?_
  rintro e w' ⟨i, rfl, rfl, h2⟩
  have HF := Lib.hid h2
  clear h2 HI
  go_wp2
  go_ret
  exact ⟨rfl, HF.out⟩
end Go.Proofs.YtlmbbnkdiokabaaDoor
