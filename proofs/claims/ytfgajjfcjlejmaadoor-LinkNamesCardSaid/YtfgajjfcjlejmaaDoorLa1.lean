/-
  A rule's delays: an iterator without end, which its caller leaves by a label.
-/
import Derived.Test.YtfgajjfcjlejmaaDoorLa0
import Derived.RangeFuncNested
import Derived.RangeFuncBound
import Derived.RangeFuncCalls
import Derived.RangeFuncLeaves
import Derived.Shelf.Abstract
import Derived.Shelf.RegionOpen
import Derived.WalkKit
import Derived.OwnWalkIn
import Derived.TacticsInMore
import Derived.LoopNIn
import Derived.LoopIn
namespace Go.Proofs.YtfgajjfcjlejmaaDoor
set_option maxRecDepth 100000
set_option linter.unusedSimpArgs false
open Go Go.RowKit
attribute [local go_sem] Oper.semAt_some

/-- A range over a function at the wide fence, whose iterator is left in the end by a jump. -/
theorem arange_run {P : Program} {n : Nat} {g : Operand} {ps : Array Tmp} {assign body : Code} {Q : Exit → Act → World → Prop} {a : Act} {w : World} {gf : Nat} {lb : Array Value}
    (hg : a.eval g = .func (.func gf) #[] lb) (eg : ∀ args w, (callFunc gf args).run P w = .ok (.enter gf args) w) (c : Code)
    (h : ∀ (fn : FuncId) (rec : LoopState → Option Code → Loop) (W1 : World), (∀ st pe, rec st pe = { state := st, pending := pe, fn, tmps := a.tmps, params := ps, assign, body, defers := w.heap.size }) →
      W1 = (w.alloc (.deferred (some []))).alloc (.loop (rec .ready none)) →
      CallsIn Fence.wide (n - 1) P gf (#[.func (.yield (w.heap.size + 1)) #[] #[]] ++ lb) W1 fun e W2 => (∃ v, e = .returned v) ∧
        W2.heap[w.heap.size + 1]? = some (.loop (rec .done (some c))) ∧
        c.wpIn Fence.wide n P Q { a with defers := [{ target := .collected w.heap.size, args := #[] }] ++ a.defers } (W2.putObj (w.heap.size + 1) (.loop (rec .exhausted (some c))))) :
    (Code.rangeFunc g ps assign body).wpIn Fence.wide n P Q a w := by
  refine wpIn_rangeFunc fun fn _ => ?_
  obtain ⟨rec, hrec⟩ : ∃ rec : LoopState → Option Code → Loop, ∀ st pe, rec st pe = { state := st, pending := pe, fn, tmps := a.tmps, params := ps, assign, body, defers := w.heap.size } := ⟨fun st pe => _, fun _ _ => rfl⟩
  obtain ⟨W1, hW1⟩ : ∃ W1, (w.alloc (.deferred (some []))).alloc (.loop (rec .ready none)) = W1 := ⟨_, rfl⟩
  refine ⟨w.heap.size + 1, [{ target := .collected w.heap.size, args := #[] }], W1, { target := .fn (.func gf) lb, args := #[.func (.yield (w.heap.size + 1)) #[] #[]] }, W1, gf,
    #[.func (.yield (w.heap.size + 1)) #[] #[]] ++ lb, W1, ?_, ?_, ?_, ?_, ?_, ?_⟩
  · rw [← hW1, hrec]; exact run_enterLoop_outer _ _ _ _ _
  · simp only [resolve, hg]
    simp [go_sem]
  · exact fun _ _ => trivial
  · simp [invoke, go_sem, eg]
  · exact fun e => absurd e (by simp [Fence.wide])
  · refine (h fn rec W1 hrec hW1.symm).mono ?_
    rintro e W2 ⟨⟨v, rfl⟩, hl, hq⟩
    refine ⟨some c, W2.putObj (w.heap.size + 1) (.loop (rec .exhausted (some c))), ?_, hq⟩
    have hend := run_endLoop (P := P) hl (by rw [hrec]; simp)
    rw [hrec] at hend ⊢
    exact hend

set_option maxHeartbeats 1000000 in
/-- The iterator of a rule's delays: it goes on till a round says 'no more', and the thirty-fourth does. -/
theorem delays_run (n l Bk b c : Nat) {W : World} {J : Nat → World → Prop} {Jx : World → Prop} (hn : 1 ≤ n) (hc : c ≤ 4294967296) (hbc : b ≤ c)
    (hR : ∀ k W1, J k W1 → W1.heap[Bk]? = some (ruO b c))
    (hY : ∀ (k : Nat) W1, J k W1 → k ≤ 33 → YieldAt Fence.wide (n - 1) Tryd.prog l #[.int .i64 (k : Int), .int .u64 (dly b c (k : Int) : Nat)] W1 fun e W' =>
      (e = .returned (.bool true) ∧ J (k + 1) W' ∧ k < 33) ∨ (e = .returned (.bool false) ∧ Jx W'))
    (h0 : J 0 W) :
    CallsIn Fence.wide n Tryd.prog 81 #[.func (.yield l) #[] #[], .pointer (some ⟨Bk, 0, none⟩)] W fun e W' => (∃ v, e = .returned v) ∧ Jx W' := by
  have HY := Lib.hid hY
  have HR : Hid (∀ k W1, J k W1 → W1.cell? ⟨Bk, 1, none⟩ = some (.int .u64 (c : Nat)) ∧ W1.cell? ⟨Bk, 0, none⟩ = some (.int .u64 (b : Nat))) := fun k W1 h => by
    have := hR k W1 h
    exact ⟨by rw [blk_cell (this : W1.heap[Bk]? = some (.cells #[_, _] _))]; rfl, by rw [blk_cell (this : W1.heap[Bk]? = some (.cells #[_, _] _))]; rfl⟩
  have H0 := Lib.hid h0
  have HC := Lib.hid hc
  have hc0 := (HR.out 0 W h0).2
  have hd0 : ((b : Nat) : Int) = ((dly b c ((0 : Nat) : Int) : Nat) : Int) := by rw [dly_zero hbc (by simp)]
  have HD0 := Lib.hid hd0
  clear hY hR h0 hd0 hc hbc
  obtain ⟨P, hP⟩ : ∃ P : Ending → World → Prop, P = fun e W' => (∃ v, e = .returned v) ∧ Jx W' := ⟨_, rfl⟩
  have HQ : Hid (∀ W', Jx W' → P (.returned (.tuple #[])) W') := by rw [hP]; exact fun W' h => ⟨⟨_, rfl⟩, h⟩
  rw [← hP]
  clear hP
  refine callsIn_of_wp Tryd.func81 rfl trivial ?_ rfl
  simp only [Tryd.ntmps81, List.size_toArray, List.length_cons, List.length_nil, Nat.reduceAdd, Nat.reduceSub, Array.replicate_succ, Array.replicate_zero, List.push_toArray, List.append_toArray, List.nil_append, List.cons_append]
  gi_wp2
  clear hc0
  gi_loopw [3, 4] (fun d i wr => ∃ k : Nat, k ≤ 33 ∧ d = .int .u64 (dly b c (k : Int) : Nat) ∧ i = .int .i64 (k : Int) ∧ J k wr) (fun _ i _ => 34 - (intOf i).toNat)
  case atStart => exact ⟨0, by omega, by rw [HD0.out], rfl, H0.out⟩
  case round =>
    obtain ⟨k, hk, rfl, rfl, hJ⟩ := hrel
    have HJ := Lib.hid hJ
    obtain ⟨fn, tmps, assign, body, hy, hYR⟩ := HY.out k wr hJ hk
    have HYR := Lib.hid hYR
    have HK := Lib.hid hk
    have hdc := dly_le b c (k : Int)
    have HS : Hid ((dly b c ((k + 1 : Nat) : Int) : Nat) = min (2 * dly b c (k : Int)) c) := dly_succ b c k
    have HC2 := HC.out
    have hw1 : IntKind.u64.wrap (2 * ((dly b c (k : Int) : Nat) : Int)) = 2 * ((dly b c (k : Int) : Nat) : Int) := au64_in (by omega) (by omega)
    have hw2 : IntKind.i64.wrap ((k : Int) + 1) = (k : Int) + 1 := IntWalk.i64_in _ (by omega)
    generalize dly b c (k : Int) = d at *
    clear hJ hYR hk hdc HC2
    gi_wp2
    refine HYR.out.mono ?_
    rintro e w2 (⟨rfl, hJ2, hk33⟩ | ⟨rfl, hx⟩)
    · obtain ⟨hc1, hc0⟩ := HR.out _ _ hJ2
      have HJ2 := Lib.hid hJ2
      have HK2 := Lib.hid hk33
      clear hJ2 hk33
      gi_wp2
      refine ⟨⟨k + 1, by have := HK2.out; omega, ?_, by push_cast; rfl, HJ2.out⟩, by simp [intOf]; have := HK2.out; omega⟩
      rw [HS.out]
      congr 1
      split <;> omega
    · have HF := Lib.hid (HQ.out w2 hx)
      clear hx
      gi_wp2
      exact bodyPost_end (results_none rfl _ _ _) rfl HF.out

theorem check_ok (w : World) {b c : Nat} (h : okR b c = true) :
    Calls Tryd.prog 32 #[ruV b c] w fun e w' => e = .returned (.int .i64 0) ∧ w' = w.alloc (ruO b c) := by
  refine (acheck_any w b c).mono ?_
  rintro e w' ⟨rfl, rfl⟩
  exact ⟨by rw [erI, if_pos h], rfl⟩
theorem check_bad (w : World) {b c : Nat} (h : okR b c = false) :
    Calls Tryd.prog 32 #[ruV b c] w fun e w' => e = .returned (.int .i64 90) ∧ w' = w.alloc (ruO b c) := by
  refine (acheck_any w b c).mono ?_
  rintro e w' ⟨rfl, rfl⟩
  exact ⟨by rw [erI, h]; rfl, rfl⟩
theorem delays_any (w : World) (b c : Nat) :
    Calls Tryd.prog 80 #[ruV b c] w fun e w' => e = .returned (.func (.func 81) #[] #[.pointer (some ⟨w.heap.size, 0, none⟩)]) ∧ w' = w.alloc (ruO b c) := by
  go_enter Tryd.func80, Tryd.ntmps80
  go_wp2
  go_ret
  exact ⟨rfl, rfl⟩

theorem delay_no (w : World) {b c : Nat} (t : Int) (h : okR b c = false) :
    Calls Tryd.prog 74 #[ruV b c, .int .i64 t] w fun e w' => e = .returned (.int .u64 0) ∧ Below w.heap.size w w' := by
  have HB := Lib.hid h
  clear h
  go_enter Tryd.func74, Tryd.ntmps74
  go_wp2
  refine wp_scope_straight ?_
  go_wp2_with (refine (check_bad _ HB.out).mono ?_; rintro e w2 ⟨rfl, rfl⟩)
  refine ⟨rfl, _, results_tmp rfl _ _ _, rfl, ?_⟩
  exact (((Below.refl _ w).alloc (Nat.le_refl _) _).alloc (by simp only [World.size_alloc]; omega) _).alloc (by simp only [World.size_alloc]; omega) _

structure AL (w : World) (b c : Nat) (t : Int) (v : Value) (W : World) : Prop where
  below : Below w.heap.size w W
  hr : W.heap[w.heap.size]? = some (ruO b c)
  ht : W.heap[w.heap.size + 1]? = some (.cells #[.int .i64 t] 3 (0, 0))
  hd : W.heap[w.heap.size + 3]? = some (.cells #[v] 23 (0, 0))
  hr2 : W.heap[w.heap.size + 4]? = some (ruO b c)
theorem AL.put {w W : World} {b c : Nat} {t : Int} {v : Value} (h : AL w b c t v W) {l : Nat} (hl : w.heap.size + 5 ≤ l) (o : Obj) : AL w b c t v (W.putObj l o) := by
  obtain ⟨h1, h2, h3, h4, h5⟩ := h
  have hk : ∀ k, k < w.heap.size + 5 → (W.putObj l o).heap[k]? = W.heap[k]? := fun k hk => World.putObj_heap_other (by omega)
  exact ⟨h1.trans ⟨rfl, rfl, rfl, by simp [World.putObj], fun k hk' => hk k (by omega)⟩, (hk _ (by omega)).trans h2, (hk _ (by omega)).trans h3, (hk _ (by omega)).trans h4, (hk _ (by omega)).trans h5⟩
theorem AL.alloc {w W : World} {b c : Nat} {t : Int} {v : Value} (h : AL w b c t v W) (o : Obj) : AL w b c t v (W.alloc o) := by
  obtain ⟨h1, h2, h3, h4, h5⟩ := h
  have hk : ∀ {k : Nat} {o' : Obj}, W.heap[k]? = some o' → (W.alloc o).heap[k]? = some o' := fun hk => (Below.heap_alloc _ _ _ (blk_lt hk)).trans hk
  exact ⟨h1.alloc h1.size _, hk h2, hk h3, hk h4, hk h5⟩
theorem AL.set {w W : World} {b c : Nat} {t : Int} {v : Value} (h : AL w b c t v W) (v' : Value) : AL w b c t v' (W.setCell ⟨w.heap.size + 3, 0, none⟩ v') := by
  obtain ⟨h1, h2, h3, h4, h5⟩ := h
  have hk : ∀ k, k ≠ w.heap.size + 3 → (W.setCell ⟨w.heap.size + 3, 0, none⟩ v').heap[k]? = W.heap[k]? := fun k hk => Below.heap_setCell _ _ _ _ hk
  exact ⟨h1.setCell (p := ⟨w.heap.size + 3, 0, none⟩) (by simp) _, (hk _ (by omega)).trans h2, (hk _ (by omega)).trans h3, blk_set h4 0 v', (hk _ (by omega)).trans h5⟩

set_option maxHeartbeats 1000000 in
theorem delay_any (w : World) {b c : Nat} (t : Int) (h : okR b c = true) :
    Calls Tryd.prog 74 #[ruV b c, .int .i64 t] w fun e w' => e = .returned (.int .u64 (dly b c t : Nat)) ∧ Below w.heap.size w w' := by
  have HB := Lib.hid h
  clear h
  refine (callsIn_wide (n := 9)).1 ?_
  refine callsIn_of_wp_marks Tryd.func74 rfl trivial ?_ rfl
  simp only [Tryd.ntmps74, List.size_toArray, List.length_cons, List.length_nil, Nat.reduceAdd, Nat.reduceSub, Array.replicate_succ, Array.replicate_zero, List.push_toArray, List.append_toArray, List.nil_append, List.cons_append]
  gi_wp2_with fail
  refine wpIn_wide.2 (wp_scope_straight ((wpIn_wide (n := 9)).1 ?_))
  gi_wp2_with fail
  refine ⟨trivial, (callsIn_wide.2 (check_ok _ HB.out)).mono ?_⟩
  rintro e w2 ⟨rfl, rfl⟩
  gi_wp2_with fail
  first | refine wpIn_seq (wpIn_label ?_) | refine wpIn_label ?_
  gi_wp2_with fail
  refine ⟨trivial, (callsIn_wide.2 (delays_any _ _ _)).mono ?_⟩
  rintro e w2 ⟨rfl, rfl⟩
  gi_wp2_with fail
  obtain ⟨W0, hW0⟩ : ∃ W0, ((((w.alloc (.cells #[.int .u64 (b : Nat), .int .u64 (c : Nat)] 25)).alloc (.cells #[.int .i64 t] 3)).alloc (ruO b c)).alloc (.cells #[.int .u64 0] 23)).alloc (ruO b c) = W0 := ⟨_, rfl⟩
  have hz : W0.heap.size = w.heap.size + 5 := by rw [← hW0]; simp
  have hA0 : AL w b c t (.int .u64 0) W0 := by
    rw [← hW0]
    have n0 := World.alloc_heap_new w (.cells #[.int .u64 (b : Nat), .int .u64 (c : Nat)] 25)
    refine ⟨?_, ?_, ?_, ?_, ?_⟩
    · exact (((((Below.refl _ w).alloc (Nat.le_refl _) _).alloc (by simp only [World.size_alloc]; omega) _).alloc (by simp only [World.size_alloc]; omega) _).alloc (by simp only [World.size_alloc]; omega) _).alloc (by simp only [World.size_alloc]; omega) _
    · rw [Below.heap_alloc _ _ _ (by simp only [World.size_alloc]; omega), Below.heap_alloc _ _ _ (by simp only [World.size_alloc]; omega), Below.heap_alloc _ _ _ (by simp only [World.size_alloc]; omega), Below.heap_alloc _ _ _ (by simp only [World.size_alloc]; omega), n0]; rfl
    · rw [Below.heap_alloc _ _ _ (by simp only [World.size_alloc]; omega), Below.heap_alloc _ _ _ (by simp only [World.size_alloc]; omega), Below.heap_alloc _ _ _ (by simp only [World.size_alloc]; omega)]
      have := World.alloc_heap_new (w.alloc (.cells #[.int .u64 (b : Nat), .int .u64 (c : Nat)] 25)) (.cells #[.int .i64 t] 3)
      simpa only [World.size_alloc] using this
    · rw [Below.heap_alloc _ _ _ (by simp only [World.size_alloc]; omega)]
      have := World.alloc_heap_new (((w.alloc (.cells #[.int .u64 (b : Nat), .int .u64 (c : Nat)] 25)).alloc (.cells #[.int .i64 t] 3)).alloc (ruO b c)) (.cells #[.int .u64 0] 23)
      simpa only [World.size_alloc] using this
    · have := World.alloc_heap_new ((((w.alloc (.cells #[.int .u64 (b : Nat), .int .u64 (c : Nat)] 25)).alloc (.cells #[.int .i64 t] 3)).alloc (ruO b c)).alloc (.cells #[.int .u64 0] 23)) (ruO b c)
      simpa only [World.size_alloc] using this
  have hdf : W0.heap.size = w.heap.size + 5 := hz
  rw [hW0]
  refine arange_run (gf := 81) (lb := #[.pointer (some ⟨w.heap.size + 4, 0, none⟩)]) rfl (enters_of Tryd.func81 (by kernel_rfl) rfl) (.exit 0) ?_
  intro fn rec W1 hrec hW1
  have hrb : 1 ≤ b ∧ b ≤ c ∧ c ≤ 4294967296 := by have := HB.out; simpa [okR] using this
  have hD1 : W1.heap[W0.heap.size]? = some (.deferred (some [])) := by
    rw [hW1]; exact (Below.heap_alloc _ _ _ (by simp)).trans (World.alloc_heap_new _ _)
  have hL1 : W1.heap[W0.heap.size + 1]? = some (.loop (rec .ready none)) := by
    rw [hW1]; have := World.alloc_heap_new (W0.alloc (.deferred (some []))) (.loop (rec .ready none)); simpa only [World.size_alloc] using this
  have hA1 : AL w b c t (.int .u64 0) W1 := by rw [hW1]; exact (hA0.alloc _).alloc _
  clear hW1 hA0 hW0
  refine (delays_run (9 - 1) (W0.heap.size + 1) (w.heap.size + 4) b c (by omega) hrb.2.2 hrb.2.1
    (J := fun k W => (k = 0 ∨ (k : Int) ≤ t) ∧ (∃ v, AL w b c t v W) ∧ W.heap[W0.heap.size]? = some (.deferred (some [])) ∧ W.heap[W0.heap.size + 1]? = some (.loop (rec .ready none)))
    (Jx := fun W => AL w b c t (.int .u64 (dly b c t : Nat)) W ∧ W.heap[W0.heap.size]? = some (.deferred (some [])) ∧ W.heap[W0.heap.size + 1]? = some (.loop (rec .done (some (.exit 0)))))
    (fun k W1 h => h.2.1.elim fun v h => h.hr2) ?_ ⟨.inl rfl, ⟨_, hA1⟩, hD1, hL1⟩).mono ?_
  · rintro k W ⟨hkt, ⟨v, hA⟩, hD, hL⟩ hk33
    suffices key : ∀ R : Ending → World → Prop,
        ((t ≤ (k : Int) ∨ dly b c (k : Int) = c) → ∀ W', AL w b c t (.int .u64 (dly b c (k : Int) : Nat)) W' → W'.heap[W0.heap.size]? = some (.deferred (some [])) → W'.heap[W0.heap.size + 1]? = some (.loop (rec .done (some (.exit 0)))) → R (.returned (.bool false)) W') →
        (¬ (t ≤ (k : Int) ∨ dly b c (k : Int) = c) → ∀ W', AL w b c t (.int .u64 (dly b c (k : Int) : Nat)) W' → W'.heap[W0.heap.size]? = some (.deferred (some [])) → W'.heap[W0.heap.size + 1]? = some (.loop (rec .ready none)) → R (.returned (.bool true)) W') →
        YieldAt Fence.wide (9 - 1 - 1) Tryd.prog (W0.heap.size + 1) #[.int .i64 (k : Int), .int .u64 (dly b c (k : Int) : Nat)] W R by
      refine key _ (fun hs W' h1 h2 h3 => .inr ⟨rfl, ?_, h2, h3⟩) (fun hs W' h1 h2 h3 => .inl ⟨rfl, ⟨.inr ?_, ⟨_, h1⟩, h2, h3⟩, ?_⟩)
      · rwa [← dly_stop hrb.2.1 hkt hs]
      · have : ¬ t ≤ (k : Int) := fun e => hs (.inl e)
        push_cast
        omega
      · by_cases h33 : k = 33
        · exact absurd (.inr (dly_cap hrb.1 hrb.2.2 (by omega))) hs
        · omega
    intro R hSt hGo
    have HST := Lib.hid hSt
    have HGO := Lib.hid hGo
    clear hSt hGo
    have hL0 := hL
    rw [hrec] at hL0
    have hy := run_yield (P := Tryd.prog) (args := #[.int .i64 (k : Int), .int .u64 (dly b c (k : Int) : Nat)]) hL0 rfl
    refine ⟨fn, _, _, _, hy, roundIn_of_wpIn trivial ?_⟩
    obtain ⟨Wb, hWb⟩ : ∃ Wb, W.putObj (W0.heap.size + 1) (.loop (rec .busy none)) = Wb := ⟨_, rfl⟩
    have hbg : (Instr.beginRound (W0.heap.size + 1)).run Tryd.prog W = .ok () Wb := by
      rw [← hWb, hrec]; exact run_beginRound hL0 rfl
    have hLb : Wb.heap[W0.heap.size + 1]? = some (.loop (rec .busy none)) := by rw [← hWb]; exact World.putObj_heap_same (blk_lt hL)
    have hDb : Wb.heap[W0.heap.size]? = some (.deferred (some [])) := by rw [← hWb]; exact (World.putObj_heap_other (by omega)).trans hD
    have hAb : AL w b c t v Wb := by rw [← hWb]; exact hA.put (by omega) _
    have c1 : Wb.cell? ⟨w.heap.size + 1, 0, none⟩ = some (.int .i64 t) := by rw [blk_cell hAb.ht]; rfl
    have c2 : Wb.cell? ⟨w.heap.size, 1, none⟩ = some (.int .u64 (c : Nat)) := by rw [blk_cell (hAb.hr : Wb.heap[w.heap.size]? = some (.cells #[_, _] _ (0, 0)))]; rfl
    have c3 : Wb.cell? ⟨w.heap.size + 1 + 1 + 1, 0, none⟩ = some v := by rw [show w.heap.size + 1 + 1 + 1 = w.heap.size + 3 by omega, blk_cell hAb.hd]; rfl
    have c4 : Wb.frozen? ⟨w.heap.size + 1 + 1 + 1, 0, none⟩ = false := by rw [show w.heap.size + 1 + 1 + 1 = w.heap.size + 3 by omega]; exact blk_free hAb.hd 0
    -- what a round comes to
    have HE : ∀ (jump : Option Code) (R : Ending → World → Prop), (∀ W', AL w b c t (.int .u64 (dly b c (k : Int) : Nat)) W' → W'.heap[W0.heap.size]? = some (.deferred (some [])) → W'.heap[W0.heap.size + 1]? = some (.loop (rec (if jump.isNone then .ready else .done) jump)) → R (.returned (.bool jump.isNone)) W') →
        ∃ v w', (Instr.endRound (W0.heap.size + 1) jump).run Tryd.prog (Wb.setCell ⟨w.heap.size + 3, 0, none⟩ (.int .u64 (dly b c (k : Int) : Nat))) = .ok v w' ∧ R (.returned v) w' := by
      intro jump R hR
      have hA2 := hAb.set (.int .u64 (dly b c (k : Int) : Nat))
      have hD2 : (Wb.setCell ⟨w.heap.size + 3, 0, none⟩ (.int .u64 (dly b c (k : Int) : Nat))).heap[W0.heap.size]? = some (.deferred (some [])) := (Below.heap_setCell _ _ _ _ (by simp; omega)).trans hDb
      have hL2 : (Wb.setCell ⟨w.heap.size + 3, 0, none⟩ (.int .u64 (dly b c (k : Int) : Nat))).heap[W0.heap.size + 1]? = some (.loop (rec .busy none)) := (Below.heap_setCell _ _ _ _ (by simp; omega)).trans hLb
      have hL3 := hL2
      rw [hrec] at hL3
      have he := run_endRound (P := Tryd.prog) jump hL3
      refine ⟨_, _, he, hR _ (hA2.put (by omega) _) ((World.putObj_heap_other (by omega)).trans hD2) ?_⟩
      rw [World.putObj_heap_same (blk_lt hL2), hrec]
    have HHE := Lib.hid HE
    have HBG := Lib.hid hbg
    have HK := Lib.hid hkt
    have HK33 := Lib.hid hk33
    have HR := Lib.hid hrb
    clear HE hbg hA hD hL hL0 hy hWb hLb hDb hAb hrec hD1 hL1 hA1 hdf hkt hk33 hrb hz
    generalize hdk : dly b c (k : Int) = d at *
    have HDK := Lib.hid hdk
    clear hdk
    by_cases h1 : t ≤ (k : Int)
    · have e1 : decide (t ≤ (k : Int)) = true := decide_eq_true h1
      have HF := Lib.hid (HST.out (.inl h1))
      gi_wp2
      refine ⟨Wb, HBG.out, ?_⟩
      gi_wp2
      exact HHE.out (some (.exit 0)) R HF.out
    · have e1 : decide (t ≤ (k : Int)) = false := decide_eq_false h1
      by_cases h2 : d = c
      · have e2 : (d == c) = true := by simp [h2]
        have HF := Lib.hid (HST.out (.inr h2))
        clear h2
        gi_wp2
        refine ⟨Wb, HBG.out, ?_⟩
        gi_wp2
        exact HHE.out (some (.exit 0)) R HF.out
      · have e2 : (d == c) = false := by simp [h2]
        have HF := Lib.hid (HGO.out (fun e => e.elim h1 h2))
        clear h2
        gi_wp2
        refine ⟨Wb, HBG.out, ?_⟩
        gi_wp2
        exact HHE.out none R HF.out
  · rintro e W2 ⟨hv, hA, hD, hL⟩
    refine ⟨hv, hL, ?_⟩
    have hA3 := hA.put (l := W0.heap.size + 1) (by omega) (.loop (rec .exhausted (some (.exit 0))))
    have hD3 : (W2.putObj (W0.heap.size + 1) (.loop (rec .exhausted (some (.exit 0))))).heap[W0.heap.size]? = some (.deferred (some [])) := (World.putObj_heap_other (by omega)).trans hD
    generalize W2.putObj (W0.heap.size + 1) (.loop (rec .exhausted (some (.exit 0)))) = W3 at *
    have hc3 : W3.cell? ⟨w.heap.size + 3, 0, none⟩ = some (.int .u64 (dly b c t : Nat)) := by rw [blk_cell hA3.hd]; rfl
    have hB3 := Lib.hid (hA3.put (l := W0.heap.size) (by omega) (.deferred none)).below
    have hd3 := Lib.hid hD3
    have HZ := Lib.hid hz
    clear hv hA hD hL hA3 hD3 hrec hD1 hL1 hA1 hrb hz hdf
    gi_wp2
    rw [Exit.noGoto_ret]
    refine ⟨by simp, .inl ⟨_, _, rfl, run_takeDeferred hd3.out, ?_⟩⟩
    exact ⟨_, results_tmp rfl _ _ _, rfl, hB3.out⟩

end Go.Proofs.YtfgajjfcjlejmaaDoor
