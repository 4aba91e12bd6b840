/-
  New, Out.
-/
import Derived.Test.YtlcadkhhpnaofaaGW3
import Derived.Lib.SliceRun
namespace Go.Proofs.Ytlcadkhhpnaofaa
set_option maxRecDepth 100000
open Go Go.RowKit Gq

theorem Try.infoRows : (Try.prog.info? 34).map (fun i => (i.zero, i.size, i.bytes)) = some (some (.slice none 0 0), 1, 24) := by kernel_rfl
theorem Try.infoInt : (Try.prog.info? 3).map (fun i => (i.zero, i.size, i.bytes)) = some (some (.int .i64 0), 1, 8) := by kernel_rfl
theorem Try.infoBool : (Try.prog.info? 4).map (fun i => (i.zero, i.size, i.bytes)) = some (some (.bool false), 1, 1) := by kernel_rfl

theorem makeRows_run (N : Nat) (hN : N ≤ 100000) (w : World) : (Instr.makeSlice 47 (.int .i64 (N : Int)) (.int .i64 (N : Int))).run Try.prog w = .ok (.slice (some ⟨w.heap.size, 0, none⟩) N N) (w.alloc (.cells (madeCells #[.slice none 0 0] N) 34)) := by
  obtain ⟨i0, hi, hz0, hz1, hz2⟩ := info_parts Try.infoRows
  have := run_make (P := Try.prog) w 47 34 i0 (.slice none 0 0) Try.underlying47 hi hz0 .i64 .i64 (N : Int) (N : Int) (by omega) (Int.le_refl _) (by rw [hz2]; omega) (by omega)
  simpa [hz1, Value.cells] using this
theorem makeInts_run (N : Nat) (hN : N ≤ 100000) (w : World) : (Instr.makeSlice 34 (.int .i64 (N : Int)) (.int .i64 (N : Int))).run Try.prog w = .ok (.slice (some ⟨w.heap.size, 0, none⟩) N N) (w.alloc (.cells (madeCells #[.int .i64 0] N) 3)) := by
  obtain ⟨i0, hi, hz0, hz1, hz2⟩ := info_parts Try.infoInt
  have := run_make (P := Try.prog) w 34 3 i0 (.int .i64 0) Try.underlying34 hi hz0 .i64 .i64 (N : Int) (N : Int) (by omega) (Int.le_refl _) (by rw [hz2]; omega) (by omega)
  simpa [hz1, Value.cells] using this
theorem makeBools_run (N : Nat) (hN : N ≤ 100000) (w : World) : (Instr.makeSlice 53 (.int .i64 (N : Int)) (.int .i64 (N : Int))).run Try.prog w = .ok (.slice (some ⟨w.heap.size, 0, none⟩) N N) (w.alloc (.cells (madeCells #[.bool false] N) 4)) := by
  obtain ⟨i0, hi, hz0, hz1, hz2⟩ := info_parts Try.infoBool
  have := run_make (P := Try.prog) w 53 4 i0 (.bool false) Try.underlying53 hi hz0 .i64 .i64 (N : Int) (N : Int) (by omega) (Int.le_refl _) (by rw [hz2]; omega) (by omega)
  simpa [hz1, Value.cells] using this


/-- A new graph. -/
theorem gat_new {w : World} {g b n : Nat} {t : TypeId} (hg : w.heap[g]? = some (.cells (madeCells #[.slice none 0 0] n) 34 (0, 0))) (hb : w.heap[b]? = some (.cells #[.slice (some ⟨g, 0, none⟩) n n] t (0, 0))) (hne : g ≠ b) (hn : n ≤ 100000) :
    GAt w b (none_ n) (fun k => k = g ∨ k = b) := by
  have hl : (none_ n).length = n := by simp [none_]
  have hhd : ∀ i, hd (List.replicate n (Value.slice none 0 0)) i = .slice none 0 0 := by
    intro i
    unfold hd
    simp only [List.getD_eq_getElem?_getD, List.getElem?_replicate]
    split <;> rfl
  refine ⟨.slice (some ⟨g, 0, none⟩) n n, List.replicate n (.slice none 0 0), some g, ?_, blk_free hb 0, ⟨?_, rfl, fun i hi => ?_⟩, by simpa using hne, .inr rfl, fun k h => .inl (by simpa using h.symm), fun i hi k h => ?_, fun k h => ?_⟩
  · rw [blk_cell hb]; rfl
  · rw [hl]
    refine ⟨by simp, .inr ⟨g, n, _, rfl, Nat.zero_le _, hg, Nat.le_refl _, by unfold maxLen; omega, ?_, ?_⟩⟩
    · rw [size_madeCells]; omega
    · rw [Nat.mul_one]
      have := toList_madeCells_one (.slice none 0 0) n
      rw [this]
      simp
  · rw [hhd, row_none]
    exact ⟨RowAt.nil w, fun k h => by simp [Value.ownBlock] at h⟩
  · rw [hhd] at h
    simp [Value.ownBlock] at h
  · rcases h with rfl | rfl
    · exact blk_lt hg
    · exact blk_lt hb

/-- Behind a call that answers a new graph. -/
def GraphPost (w : World) (R : Gr) (b : Nat) (w' : World) : Prop :=
  ∃ S, GAt w' b R S ∧ (∀ k, S k → w.heap.size ≤ k) ∧ Below w.heap.size w w'

theorem new_any (w : World) {n : Nat} (hn : n ≤ 1024) :
    Calls Try.prog 6 #[.int .i64 (n : Int)] w fun e w' => ∃ b, e = .returned (.tuple #[.pointer (some ⟨b, 0, none⟩), .int .i64 0]) ∧ GraphPost w (none_ n) b w' := by
  have hmk := Lib.hid (makeRows_run n (by omega))
  have HP : Hid (∀ t, GraphPost w (none_ n) (w.heap.size + 1) ((w.alloc (.cells (madeCells #[.slice none 0 0] n) 34)).alloc (.cells #[.slice (some ⟨w.heap.size, 0, none⟩) n n] t))) := by
    intro t
    refine ⟨_, gat_new (n := n) (g := w.heap.size) (t := t) ?_ ?_ (by omega) (by omega), fun k h => ?_, ((Below.refl _ w).alloc (Nat.le_refl _) _).alloc (by simp) _⟩
    · rw [Below.heap_alloc _ _ _ (by simp)]; exact heap_alloc_new w _
    · have := heap_alloc_new (w.alloc (.cells (madeCells #[.slice none 0 0] n) 34)) (.cells #[.slice (some ⟨w.heap.size, 0, none⟩) n n] t); rwa [World.size_alloc] at this
    · rcases h with rfl | rfl <;> omega
  have hmk2 := hmk.out
  have hd : decide (1024 < (n : Int)) = false := by simp; omega
  go_enter Try.func6, Try.ntmps6
  go_wp2
  go_ret2
  exact ⟨_, rfl, HP.out _⟩
theorem new_out (w : World) {n : Int} (hn : n < 0 ∨ 1024 < n) :
    Calls Try.prog 6 #[.int .i64 n] w fun e w' => e = .returned (.tuple #[.pointer none, .int .i64 20]) ∧ w' = w := by
  by_cases h0 : n < 0
  · go_enter Try.func6, Try.ntmps6
    go_wp2
    go_ret2
    exact ⟨rfl, rfl⟩
  · have h1 : 1024 < n := by omega
    go_enter Try.func6, Try.ntmps6
    go_wp2
    go_ret2
    exact ⟨rfl, rfl⟩

/-- A list of numbers that may be read: nil or at the head of a block. -/
def IsL (w : World) (v : Value) (l : List Int) : Prop :=
  ∃ a cap, v = .slice a l.length cap ∧ (a = none → l = []) ∧ ∀ j, j < l.length → ∃ g, a = some ⟨g, 0, none⟩ ∧ w.cell? ⟨g, j, none⟩ = some (.int .i64 (l.getD j 0))
def ints (l : List Nat) : List Int := l.map (fun n : Nat => (n : Int))
theorem ints_length (l : List Nat) : (ints l).length = l.length := by simp [ints]
theorem ints_get (l : List Nat) (j : Nat) : (ints l).getD j 0 = ((l.getD j 0 : Nat) : Int) := by
  unfold ints
  simp only [List.getD_eq_getElem?_getD, List.getElem?_map]
  cases l[j]? <;> rfl
theorem RowAt.isL {w : World} {v : Value} {l : List Nat} (h : RowAt w v l) : IsL w v (ints l) := by
  obtain ⟨A, cap, rfl, _, _, hn, hc⟩ := h.form
  refine ⟨A, cap, by rw [ints_length], fun e => by rw [(hn e).1]; rfl, fun j hj => ?_⟩
  rw [ints_length] at hj
  obtain ⟨g, e, h1, _⟩ := hc j hj
  exact ⟨g, e, by rw [h1, ints_get]⟩
theorem IsL.kept {X : Nat → Prop} {w w' : World} {v : Value} {l : List Int} (h : IsL w v l) (hk : Kept X w w') (hv : ∀ g, v.ownBlock = some g → ¬ X g) : IsL w' v l := by
  obtain ⟨a, cap, rfl, hn, hc⟩ := h
  refine ⟨a, cap, rfl, hn, fun j hj => ?_⟩
  obtain ⟨g, rfl, h1⟩ := hc j hj
  exact ⟨g, rfl, hk.cell h1 (hv g rfl)⟩
theorem IsL.still {w w' : World} {v : Value} {l : List Int} (h : IsL w v l) (hk : Still w w') : IsL w' v l := h.kept hk (fun _ _ => id)
theorem IsL.below {w w' : World} {v : Value} {l : List Int} (h : IsL w v l) {B : Nat} (hb : Below B w w') (hB : w.heap.size ≤ B) : IsL w' v l := h.still (Kept.of_below hb hB)

theorem clone_any {w : World} {v : Value} {l : List Nat} (h : RowAt w v l) (hn : l.length ≤ 100000) :
    Calls Try.prog 30 #[v] w fun e w' => ∃ v', e = .returned v' ∧ RowAt w' v' l ∧ (∀ k, v'.ownBlock = some k → w.heap.size ≤ k) ∧ Below w.heap.size w w' := by
  obtain ⟨i0, hi, hz0, hz1, hz2⟩ := info_parts Try.infoInt
  have q22 : ∀ (w : World) (a : Option Addr) (n c n' c' : Nat), (binOp .eql 34 (.slice a n c) (.slice none n' c')).run Try.prog w = .ok (.bool a.isNone) w := fun w a n c n' c' => Lib.run_eql_slice_nil w _ _ a n c n' c' Try.underlying34
  have hl := h.1
  rcases h.2 with ⟨rfl, h0⟩ | ⟨g, cap, cur, rfl, _⟩
  · obtain rfl : l = [] := List.eq_nil_of_length_eq_zero h0
    go_enter Try.func30, Try.ntmps30
    go_wp2
    go_ret
    exact ⟨_, rfl, RowAt.nil _, fun k h => by simp [Value.ownBlock] at h, Below.refl _ _⟩
  · have A : Hid (∀ j u, (nis l)[j]? = some u → w.cell? ((⟨g, 0, none⟩ : Addr).add j) = some u) := World.ownsRow.cells h rfl
    have h1 := nis_one (l := l)
    have hxl := nis_length l
    have HR : Hid (∀ w1 v', w1.ownsRow w.heap.size 3 1 v' l.length (nis l) → RowAt w1 v' l ∧ ∀ k, v'.ownBlock = some k → w.heap.size ≤ k) := fun w1 v' h => ⟨row_base h (Nat.zero_le _), fun k hk => (h.lt k hk).1⟩
    clear h
    generalize nis l = xs at *
    generalize hm : l.length = m at *
    clear hm hl
    go_enter Try.func30, Try.ntmps30
    go_wp2_with (at_builtin; refine wpList_append_own _ rfl _ _ 34 rfl w.heap.size 3 i0 (.int .i64 0) 1 8 Try.underlying34 hi hz0 hz1 hz2 rfl (by decide) _ _ _ rfl (World.ownsRow_made w #[] 0 (Nat.le_refl _) (Nat.zero_le _) (by simp)) ⟨g, 0, none⟩ m cap xs rfl ?qc1 ?qc2 ?qc3 ?qc4 ?qc5 ?qc6 ?_)
    case qc1 => omega
    case qc2 =>
      intro j u hj
      exact Lib.cell?_alloc_some _ (A.out j u hj)
    case qc3 => exact h1
    case qc4 => unfold maxLen; omega
    case qc5 => omega
    case qc6 => simp
    intro v' w1 hown hgrow _
    have HO : Hid (w1.ownsRow w.heap.size 3 1 v' m xs) := by show World.ownsRow _ _ _ _ _ _ _; simpa using hown
    have HB : Hid (Below w.heap.size w w1) := ((Below.refl _ w).alloc (Nat.le_refl _) _).grown hgrow (by simp) (by intro k hk; simp [Value.ownBlock] at hk; omega)
    clear hown hgrow
    go_wp2
    go_ret
    exact ⟨v', rfl, (HR.out _ _ HO.out).1, (HR.out _ _ HO.out).2, HB.out⟩

def OutPost (w : World) (l : List Nat) (e : Ending) (w' : World) : Prop :=
  ∃ v', e = .returned v' ∧ RowAt w' v' l ∧ (∀ k, v'.ownBlock = some k → w.heap.size ≤ k) ∧ Below w.heap.size w w'
theorem out_any {w : World} {b : Nat} {R : Gr} {S : Nat → Prop} (h : GAt w b R S) (hO : Ok R) {a : Nat} (ha : a < R.length) :
    Calls Try.prog 12 #[.pointer (some ⟨b, 0, none⟩), .int .i64 (a : Int)] w (OutPost w (row R a)) := by
  have HH := Lib.hid (has_any h (a : Int))
  obtain ⟨A, Vs, T, hc, hf, ht, _⟩ := h
  obtain ⟨g, cap, rfl, _, hc2, _⟩ := ht.head ha
  have HR := Lib.hid (clone_any (ht.row a ha).1 (by have := hO.len a; have := hO.size; omega))
  have hn := hO.size
  have hnode : isNode R.length (a : Int) = true := by simp [isNode, ha]
  rw [hnode] at HH
  clear ht hf hO hnode
  generalize R.length = n at *
  generalize hd Vs a = v at *
  go_enter Try.func12, Try.ntmps12
  go_wp2_with fail
  refine HH.out.mono ?_
  rintro e w' ⟨rfl, rfl⟩
  go_wp2_with fail
  refine HR.out.mono ?_
  rintro e w' ⟨v', rfl, hq⟩
  have HQ := Lib.hid hq
  clear hq
  go_wp2
  go_ret
  exact ⟨_, rfl, HQ.out⟩
theorem out_out {w : World} {b : Nat} {R : Gr} {S : Nat → Prop} (h : GAt w b R S) {a : Int} (ha : isNode R.length a = false) :
    Calls Try.prog 12 #[.pointer (some ⟨b, 0, none⟩), .int .i64 a] w fun e w' => e = .returned (.slice none 0 0) ∧ w' = w := by
  have HH := Lib.hid (has_any h a)
  rw [ha] at HH
  clear h
  go_enter Try.func12, Try.ntmps12
  go_wp2_with fail
  refine HH.out.mono ?_
  rintro e w' ⟨rfl, rfl⟩
  go_wp2
  go_ret
  exact ⟨rfl, rfl⟩
theorem out_nil (w : World) (a : Int) :
    Calls Try.prog 12 #[.pointer none, .int .i64 a] w fun e w' => e = .returned (.slice none 0 0) ∧ w' = w := by
  go_enter Try.func12, Try.ntmps12
  go_wp2_with fail
  refine (has_nil _ _).mono ?_
  rintro e w' ⟨rfl, rfl⟩
  go_wp2
  go_ret
  exact ⟨rfl, rfl⟩
end Go.Proofs.Ytlcadkhhpnaofaa
