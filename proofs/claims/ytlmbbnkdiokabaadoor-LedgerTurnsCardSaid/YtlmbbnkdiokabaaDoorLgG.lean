/-
  New; Renewed, Place.
-/
import Derived.Test.YtlmbbnkdiokabaaDoorLgE
namespace Go.Proofs.YtlmbbnkdiokabaaDoor
set_option maxRecDepth 100000
set_option linter.unusedSimpArgs false
open Go Go.RowKit Sp Lg

theorem zero_lc (h R C : Int) (me mq : Nat) : ((((Tryd.zeroCells88.setIfInBounds 0 (.int .i64 h)).setIfInBounds 1 (.int .i64 R)).setIfInBounds 2 (.int .i64 C)).setIfInBounds 3 (.map (some me))).setIfInBounds 4 (.map (some mq)) = (lc ⟨h, R, C, fun _ => e0, fun _ => [], fun _ => false⟩ me mq).toArray := by kernel_rfl
/-- What New leaves. -/
def NewP (w w' : World) (h R C : Int) (e : Ending) : Prop :=
  if newB h R C then ∃ b me mq, e = .returned (.tuple #[.pointer (some ⟨b, 0, none⟩), .int .i64 0]) ∧ LedAt w' b me mq (fun _ => none) 0 (newS h R C) ∧ (∀ k, LX b me mq (fun _ => none) k → w.heap.size ≤ k) ∧ Below w.heap.size w w'
  else e = .returned (.tuple #[.pointer none, .int .i64 2]) ∧ w' = w
set_option maxHeartbeats 2000000 in
theorem new_ok {w : World} (ha : AF w) {h R C : Int} (k : newB h R C = true) : Calls Tryd.prog 12 #[.int .i64 h, .int .i64 R, .int .i64 C] w fun e w' => NewP w w' h R C e := by
  have hok := newS_ok k
  have kk := k
  unfold newB at kk
  simp only [Bool.and_eq_true, decide_eq_true_eq] at kk
  have e1 : decide (R < 1) = false := by simp; omega
  have e2 : decide (64 < R) = false := by simp; omega
  have e3 : decide (h < 0) = false := by simp; omega
  have e4 : decide (R ≤ h) = false := by simp; omega
  have e5 : decide (C < 1) = false := by simp; omega
  have e6 : decide (1024 < C) = false := by simp; omega
  have i0 : (0 : Int) ≤ h := by omega
  have i1 : h < 64 := by omega
  have m1 : ∀ w : World, (Instr.makeMap 84 none).run Tryd.prog w = .ok (.map (some w.heap.size)) (w.alloc (.map #[] 0)) := fun w => by kernel_rfl
  have m2 : ∀ w : World, (Instr.makeMap 85 none).run Tryd.prog w = .ok (.map (some w.heap.size)) (w.alloc (.map #[] 0)) := fun w => by kernel_rfl
  obtain ⟨i, hi⟩ : ∃ i : Nat, i = h.toNat := ⟨_, rfl⟩
  have hi64 : i < 64 := by omega
  have hg : (((((Tryd.zeroCells88.setIfInBounds 0 (.int .i64 h)).setIfInBounds 1 (.int .i64 R)).setIfInBounds 2 (.int .i64 C)).setIfInBounds 3 (.map (some w.heap.size))).setIfInBounds 4 (.map (some (w.heap.size + 1))))[5 + h.toNat]? = some (.bool false) := by
    rw [zero_lc, ← hi]
    simp only [lc, List.getElem?_toArray]
    rw [List.getElem?_append_right (by simp)]
    simp only [List.length_cons, List.length_nil]
    rw [show 5 + i - (0 + 1 + 1 + 1 + 1 + 1) = i by omega]
    exact tc_get _ hi64
  have HF : Hid (NewP w ((((w.alloc (.map #[] 0)).alloc (.map #[] 0)).alloc (.cells (((((Tryd.zeroCells88.setIfInBounds 0 (.int .i64 h)).setIfInBounds 1 (.int .i64 R)).setIfInBounds 2 (.int .i64 C)).setIfInBounds 3 (.map (some w.heap.size))).setIfInBounds 4 (.map (some (w.heap.size + 1)))) 88)).setCell ⟨w.heap.size + 1 + 1, 5 + h.toNat, none⟩ (.bool true)) h R C (.returned (.tuple #[.pointer (some ⟨w.heap.size + 1 + 1, 0, none⟩), .int .i64 0]))) := by
    rw [zero_lc, ← hi]
    obtain ⟨W, hW⟩ : ∃ W, W = (((w.alloc (.map #[] 0)).alloc (.map #[] 0)).alloc (.cells (lc ⟨h, R, C, fun _ => e0, fun _ => [], fun _ => false⟩ w.heap.size (w.heap.size + 1)).toArray 88)) := ⟨_, rfl⟩
    rw [← hW]
    have hbw : Below w.heap.size w W := by rw [hW]; exact (((Below.refl _ w).alloc (Nat.le_refl _) _).alloc (by simp) _).alloc (by simp; omega) _
    have hb : W.heap[w.heap.size + 1 + 1]? = some (.cells (lc ⟨h, R, C, fun _ => e0, fun _ => [], fun _ => false⟩ w.heap.size (w.heap.size + 1)).toArray 88 (0, 0)) := by
      rw [hW]
      have := World.alloc_heap_new ((w.alloc (.map #[] 0)).alloc (.map #[] 0)) (.cells (lc ⟨h, R, C, fun _ => e0, fun _ => [], fun _ => false⟩ w.heap.size (w.heap.size + 1)).toArray 88)
      rw [World.size_alloc, World.size_alloc] at this
      exact this
    have hm1 : MapV W 3 keyI w.heap.size 0 (fun _ => none) := by
      rw [hW]
      exact (MapV.made w _ _).same (heap_up (heap_up (World.alloc_heap_new w _)) |>.trans (World.alloc_heap_new w _).symm)
    have hm2 : MapV W 3 keyI (w.heap.size + 1) 0 (fun _ => none) := by
      rw [hW]
      have := MapV.made (w.alloc (.map #[] 0)) 3 keyI
      rw [World.size_alloc] at this
      exact this.same (heap_up (heap2 w _ _) |>.trans (heap2 w _ _).symm)
    have hlt := ha.lt
    have hL0 : LedAt W (w.heap.size + 1 + 1) w.heap.size (w.heap.size + 1) (fun _ => none) 0 ⟨h, R, C, fun _ => e0, fun _ => [], fun _ => false⟩ := by
      refine ⟨hb, ?_, ?_, fun _ => ⟨fun _ => rfl, fun _ => rfl⟩, fun _ _ e => (by cases e), fun _ _ _ e => (by cases e), by omega, ha.kept (keptB hbw) id, fun k hk => ?_, ?_⟩
      · have : entF (fun _ => e0) = fun _ => none := by funext c; simp [entF]
        rw [this]; exact hm1
      · exact hm2
      · rcases hk with e | e | e | ⟨_, e⟩
        · omega
        · omega
        · omega
        · cases e
      · exact ⟨hok.h0, hok.hR, hok.R1, hok.C0, hok.C1, hok.out, hok.q, hok.qr, hok.er, hok.eg⟩
    have hL := hL0.setT hi64 true
    unfold NewP
    rw [if_pos k]
    refine ⟨w.heap.size + 1 + 1, w.heap.size, w.heap.size + 1, rfl, ?_, ?_, ?_⟩
    · have : (⟨h, R, C, fun _ => e0, fun _ => [], fun _ => false⟩ : S).setT (i : Int) true = newS h R C := by
        unfold S.setT newS
        congr 1
        funext x
        by_cases e : x = h
        · simp [e, hi]; omega
        · have : ¬ x = (i : Int) := by omega
          simp [e, this]
      rw [← this]; exact hL
    · rintro k (e | e | e | ⟨_, e⟩)
      · omega
      · omega
      · omega
      · cases e
    · exact hbw.trans (((Kept.refl (fun k => k = w.heap.size + 1 + 1) W).setCell (p := ⟨w.heap.size + 1 + 1, 5 + i, none⟩) (.inl rfl) _).below (fun k e => by omega) hbw.size)
  obtain ⟨Q, hQ⟩ : ∃ Q : Ending → World → Prop, Q = fun e w' => NewP w w' h R C e := ⟨_, rfl⟩
  have HQ : Hid (∀ e w', NewP w w' h R C e → Q e w') := by rw [hQ]; exact fun _ _ h => h
  rw [← hQ]
  clear hQ hok kk k ha hi hi64
  go_enter Tryd.func12, Tryd.ntmps12
  go_wp2
  have hfin := HF.out
  rw [World.setCell_alloc_at _ _ _ _ _ (by simp)] at hfin
  exact HQ.out _ _ hfin
theorem new_no {w : World} {h R C : Int} (k : newB h R C = false) : Calls Tryd.prog 12 #[.int .i64 h, .int .i64 R, .int .i64 C] w fun e w' => NewP w w' h R C e := by
  obtain ⟨Q, hQ⟩ : ∃ Q : Ending → World → Prop, Q = fun e w' => NewP w w' h R C e := ⟨_, rfl⟩
  have HF : Hid (Q (.returned (.tuple #[.pointer none, .int .i64 2])) w) := by
    rw [hQ]; show NewP _ _ _ _ _ _; unfold NewP; rw [k]; exact ⟨rfl, rfl⟩
  rw [← hQ]
  unfold newB at k
  clear hQ
  by_cases h0 : R < 1
  · have e0 : decide (R < 1) = true := by simpa using h0
    clear k
    go_enter Tryd.func12, Tryd.ntmps12
    go_wp2
    exact HF.out
  have e0 : decide (R < 1) = false := by simpa using h0
  by_cases h1 : 64 < R
  · have e1 : decide (64 < R) = true := by simpa using h1
    clear k
    go_enter Tryd.func12, Tryd.ntmps12
    go_wp2
    exact HF.out
  have e1 : decide (64 < R) = false := by simpa using h1
  by_cases h2 : h < 0
  · have e2 : decide (h < 0) = true := by simpa using h2
    clear k
    go_enter Tryd.func12, Tryd.ntmps12
    go_wp2
    exact HF.out
  have e2 : decide (h < 0) = false := by simpa using h2
  by_cases h3 : R ≤ h
  · have e3 : decide (R ≤ h) = true := by simpa using h3
    clear k
    go_enter Tryd.func12, Tryd.ntmps12
    go_wp2
    exact HF.out
  have e3 : decide (R ≤ h) = false := by simpa using h3
  by_cases h4 : C < 1
  · have e4 : decide (C < 1) = true := by simpa using h4
    clear k
    go_enter Tryd.func12, Tryd.ntmps12
    go_wp2
    exact HF.out
  have e4 : decide (C < 1) = false := by simpa using h4
  by_cases h5 : 1024 < C
  · have e5 : decide (1024 < C) = true := by simpa using h5
    clear k
    go_enter Tryd.func12, Tryd.ntmps12
    go_wp2
    exact HF.out
  have e5 : decide (1024 < C) = false := by simpa using h5
  exfalso
  simp only [Bool.and_eq_false_iff, decide_eq_false_iff_not] at k
  omega
theorem new_any {w : World} (ha : AF w) (h R C : Int) : Calls Tryd.prog 12 #[.int .i64 h, .int .i64 R, .int .i64 C] w fun e w' => NewP w w' h R C e := by
  cases k : newB h R C with
  | true => exact new_ok ha k
  | false => exact new_no k
end Go.Proofs.YtlmbbnkdiokabaaDoor
