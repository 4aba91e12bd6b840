/-
  The pile's Least: its walk.
-/
import Derived.Test.YtdhpphkkpjldfabPW9
import Derived.Maps.AppendAt
namespace Go.Proofs.Ytdhpphkkpjldfab
set_option maxRecDepth 100000
open Go Go.RowKit Pq
attribute [local go_sem] Oper.semAt_some

/-- Between two rounds: what was told lies in a list of the call's own. -/
def LeastI (w : World) (b j : Nat) (r : Option Nat) (pre : List It) (W : World) : Prop :=
  (∃ v, W.heap[w.heap.size]? = some (.cells #[v] 24 (0, 0)) ∧ W.ownsRow (w.heap.size + 3) 32 3 v pre.length (csL pre)) ∧ Kp b j r w W ∧ w.heap.size + 3 ≤ W.heap.size

theorem LeastI.others {w W W' : World} {b j : Nat} {r : Option Nat} {pre : List It} (h : LeastI w b j r pre W) {X : Nat → Prop} (hk : Kept X W W') (hX : ∀ k, w.heap.size ≤ k → (∃ c t f, W.heap[k]? = some (.cells c t f)) → ¬ X k) (hK : Kp b j r w W') : LeastI w b j r pre W' := by
  obtain ⟨⟨v, h1, h2⟩, h3, h4⟩ := h
  refine ⟨⟨v, (hk.block _ (blk_lt h1) (hX _ (Nat.le_refl _) ⟨_, _, _, h1⟩)).trans h1, hk.row h2 ?_⟩, hK, Nat.le_trans h4 hk.size⟩
  intro g hg
  have hb := (h2.lt g hg).1
  rcases h2.2 with ⟨rfl, _⟩ | ⟨g', cap, cur, rfl, _, hgg, _⟩
  · simp [Value.ownBlock] at hg
  · have : g' = g := by simpa [Value.ownBlock] using hg
    subst this
    exact hX _ (by omega) ⟨_, _, _, hgg⟩

theorem kept_row {W W' : World} {row : Option Nat} (hg : W.grownBy W' row) : Kept (fun k => some k = row) W W' := ⟨hg.os, hg.tape, hg.output, hg.size, fun k hk hn => hg.block k hk hn⟩

theorem cells_no {W : World} {k : Nat} {o : Obj} (h : W.heap[k]? = some o) (hc : o.isCells = false) : ¬ ∃ c t f, W.heap[k]? = some (.cells c t f) := by
  rintro ⟨c, t, f, e⟩
  rw [h] at e
  cases e
  cases hc

theorem LeastI.from (w : World) (b j : Nat) (r : Option Nat) (hb : b < w.heap.size) : OwnFrom (w.heap.size + 3) (LeastI w b j r) := by
  intro pre W W' row h hg hr
  refine h.others (kept_row hg) (fun k _ hc e => ?_) (h.2.1.trans (Kp.of_kept (r := row) (kept_row hg) (Nat.lt_of_lt_of_le hb h.2.1.kept.size) (fun e => by have := (hr b e.symm).1; omega) (fun _ _ h => h)) (fun i hi e => by have := (hr i e.symm).1; omega))
  obtain ⟨_, o, ho, hoc⟩ := hr k e.symm
  exact cells_no ho hoc hc
theorem LeastI.take (w : World) (b j : Nat) (r : Option Nat) (hlt : ∀ k, Of b r k → k < w.heap.size) : ∀ pre A B, LeastI w b j r pre A → TakeT b j r A B → LeastI w b j r pre B := by
  intro pre A B h ht
  exact h.others ht.1.kept (fun k hk _ ho => by have := hlt k ho; omega) (h.2.1.trans ht.1 (fun _ _ => id))

theorem row_base {w : World} {base base' : Nat} {e : TypeId} {size : Nat} {v : Value} {n : Nat} {xs : List Value} (h : w.ownsRow base e size v n xs) (hb : base' ≤ base) : w.ownsRow base' e size v n xs := by
  refine ⟨h.1, ?_⟩
  rcases h.2 with hn | ⟨g, cap, cur, rfl, hg, rest⟩
  · exact .inl hn
  · exact .inr ⟨g, cap, cur, rfl, by omega, rest⟩

def LeastPost (w : World) (b j : Nat) (r : Option Nat) (s : List It) (m : Nat) (e : Ending) (w' : World) : Prop :=
  ∃ v, e = .returned v ∧ w'.ownsRow w.heap.size 32 3 v (s.take m).length (csL (s.take m)) ∧ PileS w' b j r (s.drop m) ∧ Kp b j r w w'

set_option maxHeartbeats 400000 in
theorem taken_any (b j : Nat) (m : Int) (w : World) :
    Calls Try.prog 24 #[.pointer (some ⟨b, j, none⟩), .int .i64 m] w fun e w' => e = .returned (.func (.func 28) #[] #[.pointer (some ⟨w.heap.size + 1, 0, none⟩), .pointer (some ⟨w.heap.size, 0, none⟩)]) ∧ w' = (w.alloc (.cells #[.pointer (some ⟨b, j, none⟩)] 23)).alloc (.cells #[.int .i64 m] 3) := by
  go_enter Try.func24, Try.ntmps24
  go_wp2
  go_ret
  exact ⟨rfl, rfl⟩

theorem least_round {w W0 W W2 : World} {b j : Nat} {r : Option Nat} {pre : List It} {x : It} {v v' : Value} {o : Obj} {a : Act} (hlt : ∀ k, Of b r k → k < w.heap.size) (hz : W0.heap.size = w.heap.size + 3)
    (h3 : Kp b j r w W) (h4 : w.heap.size + 3 ≤ W.heap.size) (h1 : W.heap[w.heap.size]? = some (.cells #[v] 24 (0, 0))) (h2 : W.ownsRow (w.heap.size + 3) 32 3 v pre.length (csL pre))
    (hg : (W.alloc o).grownBy W2 v.ownBlock) (ho : W2.ownsRow (w.heap.size + 3) 32 3 v' (pre.length + 1) (csL pre ++ x.cs)) :
    (W2.cell? ⟨w.heap.size, 0, none⟩ = some v ∧ W2.frozen? ⟨w.heap.size, 0, none⟩ = false) ∧ roundEnd W0.heap.size (KeepB (TakeX (w.heap.size + 1 + 1) (w.heap.size + 1) b r)) (LeastI w b j r) (pre ++ [x]) W .normal a (W2.setCell ⟨w.heap.size, 0, none⟩ v') := by
  have hvb : ∀ k, some k = v.ownBlock → w.heap.size + 3 ≤ k := fun k e => (h2.lt k e.symm).1
  have hvc : ∀ k, some k = v.ownBlock → ∃ c t f, W.heap[k]? = some (.cells c t f) := by
    intro k e
    rcases h2.2 with ⟨rfl, _⟩ | ⟨g', cap, cur, rfl, _, hgg, _⟩
    · cases e
    · have : k = g' := by simpa [Value.ownBlock] using e
      subst this
      exact ⟨_, _, _, hgg⟩
  have K1 : Kept (fun k => some k = v.ownBlock) W W2 := ((Kept.refl _ W).alloc o).grown hg (fun k e => .inl e.symm)
  have b2 : W2.heap[w.heap.size]? = some (.cells #[v] 24 (0, 0)) := (K1.block _ (by omega) (fun e => by have := hvb _ e; omega)).trans h1
  have KX : Kept (fun k => k = w.heap.size ∨ some k = v.ownBlock) W (W2.setCell ⟨w.heap.size, 0, none⟩ v') := (K1.mono (fun _ _ h => .inr h)).setCell (p := ⟨w.heap.size, 0, none⟩) (.inl (.inl rfl)) _
  refine ⟨⟨by rw [blk_cell b2]; rfl, blk_free b2 0⟩, ⟨KX.size, ?_⟩, KeepB.of_kept KX ?_, ⟨⟨v', by rw [blk_set b2]; rfl, ?_⟩, ?_, ?_⟩⟩
  · intro k ob hk hob hc
    refine (KX.block k (blk_lt hob) ?_).trans hob
    rintro (e | e)
    · omega
    · exact cells_no hob hc (hvc k e)
  · rintro k hk _ (e | e)
    · rcases hk with h | h | h
      · omega
      · omega
      · have := hlt k h; omega
    · have h5 := hvb k e
      rcases hk with h | h | h
      · omega
      · omega
      · have := hlt k h; omega
  · have e : csL (pre ++ [x]) = csL pre ++ x.cs := by rw [csL_append]; simp [csL]
    rw [e, List.length_append]
    exact Kept.row ((Kept.refl (fun k => k = w.heap.size) W2).setCell (p := ⟨w.heap.size, 0, none⟩) (.inl rfl) _) ho (fun k hk e => by have := (ho.lt k hk).1; omega)
  · have hb := hlt b (.inl rfl)
    have K5 : Kp b j v.ownBlock W W2 := Kp.of_kept K1 (by omega) (fun e => by have := hvb b e; omega) (fun _ _ h => h)
    have K6 : Kp b j (some w.heap.size) W2 (W2.setCell ⟨w.heap.size, 0, none⟩ v') :=
      Kp.of_kept ((Kept.refl (fun k => k = w.heap.size) W2).setCell (p := ⟨w.heap.size, 0, none⟩) (.inl rfl) _) (Nat.lt_of_lt_of_le (by omega) K1.size) (fun e => by omega) (fun k _ e => by rw [e])
    exact (h3.trans K5 (fun i hi e => by have := hvb i e; omega)).trans K6 (fun i hi e => by simp at e; omega)
  · exact Nat.le_trans h4 KX.size

set_option maxHeartbeats 2000000 in
theorem least_any {w : World} {b j : Nat} {r : Option Nat} {s : List It} (h : PileS w b j r s) (hl : s.length ≤ 9999) (m : Int) :
    Calls Try.prog 14 #[.pointer (some ⟨b, j, none⟩), .int .i64 m] w (LeastPost w b j r s m.toNat) := by
  obtain ⟨i0, hi, hz0, hz1, hz2⟩ := info_parts Try.infoItem
  have HS := Lib.hid h
  have hlt := h.lt
  clear h
  refine (callsIn_wide (n := 9)).1 ?_
  refine callsIn_of_wp_marks Try.func14 rfl trivial ?_ rfl
  simp only [Try.ntmps14, List.size_toArray, List.length_cons, List.length_nil, Nat.reduceAdd, Nat.reduceSub, Array.replicate_succ, Array.replicate_zero, List.push_toArray, List.append_toArray, List.nil_append, List.cons_append]
  gi_wp2_with fail
  refine ⟨trivial, (callsIn_wide.2 (taken_any _ _ _ _)).mono ?_⟩
  rintro e w1 ⟨rfl, rfl⟩
  gi_wp2_with fail
  obtain ⟨W0, hW0⟩ : ∃ W0, ((w.alloc (.cells #[.slice none 0 0] 24)).alloc (.cells #[.pointer (some ⟨b, j, none⟩)] 23)).alloc (.cells #[.int .i64 m] 3) = W0 := ⟨_, rfl⟩
  have hz : W0.heap.size = w.heap.size + 3 := by rw [← hW0]; simp
  have hk0 : Kept (fun _ => False) w W0 := by rw [← hW0]; exact (((Kept.refl _ w).alloc _).alloc _).alloc _
  have b5 : W0.heap[w.heap.size]? = some (.cells #[.slice none 0 0] 24 (0, 0)) := by
    rw [← hW0]
    exact ((((Kept.refl (fun _ => False) (w.alloc (.cells #[.slice none 0 0] 24))).alloc _).alloc _).block w.heap.size (by simp) id).trans (heap_alloc_new w _)
  have cp : W0.cell? ⟨w.heap.size + 1, 0, none⟩ = some (.pointer (some ⟨b, j, none⟩)) := by
    rw [← hW0]
    exact cell_a1 (by have := heap_alloc_new (w.alloc (.cells #[.slice none 0 0] 24)) (.cells #[.pointer (some ⟨b, j, none⟩)] 23); rw [World.size_alloc] at this; rw [blk_cell this]; rfl) _
  have cn : W0.cell? ⟨w.heap.size + 1 + 1, 0, none⟩ = some (.int .i64 m) := by
    rw [← hW0]
    have := heap_alloc_new ((w.alloc (.cells #[.slice none 0 0] 24)).alloc (.cells #[.pointer (some ⟨b, j, none⟩)] 23)) (.cells #[.int .i64 m] 3)
    rw [World.size_alloc, World.size_alloc] at this
    rw [blk_cell this]; rfl
  have hs0 := HS.out.kept hk0 (fun _ _ => id)
  have h00 : LeastI w b j r [] W0 := ⟨⟨_, b5, World.ownsRow_nil _ _ _ _⟩, Kp.of_kept hk0 (hlt b (.inl rfl)) id (fun _ _ h => h.elim), by omega⟩
  rw [hW0]
  clear hW0 hk0 b5
  have HC0 := Lib.hid cp
  have HN0 := Lib.hid cn
  clear cp cn
  have hX0 : ∀ k, TakeX (w.heap.size + 1 + 1) (w.heap.size + 1) b r k → k < W0.heap.size := by
    rintro k (rfl | rfl | hk)
    · omega
    · omega
    · have := hlt k hk; omega
  refine range_state (by omega) (gf := 28) (lb := #[.pointer (some ⟨w.heap.size + 1 + 1, 0, none⟩), .pointer (some ⟨w.heap.size + 1, 0, none⟩)]) rfl (enters_of Try.func28 (by kernel_rfl) rfl)
    (encs := fun x : It => #[.agg #[.int .i64 x.c, .int .i64 x.t, .int .i64 x.i]]) (fun _ => rfl)
    (taken_tells (9 - 1) (by omega) (w.heap.size + 1 + 1) (w.heap.size + 1) b j r s m W0 hs0 hl HN0.out HC0.out (fun h => by have := hlt _ h; omega)) (Below.refl _ _)
    (fun A B ht => ⟨ht.1.kept.size, fun k o _ ho hc => ht.2 k o ho hc⟩) (fun h k => h.trans k)
    (fun W l o o' hl' _ _ => KeepB.of_kept (kept_row (grownBy_putObj' W l o')) (fun k hk _ e => by have := hX0 k hk; cases e; omega))
    (LeastI w b j r) (hz ▸ LeastI.from w b j r (hlt b (.inl rfl))) (LeastI.take w b j r hlt) ?hS h00
    (fun x a' W => ∃ Bx, w.heap.size + 3 ≤ Bx ∧ W.heap[Bx]? = some (.cells #[.int .i64 x.c, .int .i64 x.t, .int .i64 x.i] 32 (0, 0)) ∧
      a' = { tmps := #[.pointer (some ⟨b, j, none⟩), .int .i64 m, undef, undef, .slice none 0 0, .pointer (some ⟨w.heap.size, 0, none⟩), .pointer (some ⟨Bx, 0, none⟩), .pointer (some ⟨b, j, none⟩), .int .i64 m, .func (.func 28) #[] #[.pointer (some ⟨w.heap.size + 1 + 1, 0, none⟩), .pointer (some ⟨w.heap.size + 1, 0, none⟩)], .agg #[.int .i64 x.c, .int .i64 x.t, .int .i64 x.i], undef, undef, undef, undef, undef], defers := [] })
    ?hAx ?assign ?body ?done
  case hS =>
    rintro xs A B row ⟨h1, h2⟩ hg hr
    exact ⟨h1, h2.kept (kept_row hg) (fun k hk e => by have := hlt k hk; have := (hr k e.symm).1; omega)⟩
  case hAx =>
    rintro x a' _ X Y row ⟨Bx, h1, h2, h3⟩ hg hr
    refine ⟨Bx, h1, (hg.block _ (blk_lt h2) (fun e => ?_)).trans h2, h3⟩
    obtain ⟨_, o, ho, hc⟩ := hr _ e.symm
    rw [h2] at ho
    cases ho
    cases hc
  case assign =>
    intro l pre x W K hI hK
    gi_wp2
    refine hK _ _ ?_ ?_ ?_ ⟨W.heap.size, ?_, ?_, rfl⟩
    · exact (KeepsOthers.alloc _ _).from _
    · exact KeepB.of_kept ((Kept.refl (fun _ => False) W).alloc _) (fun _ _ _ => id)
    · exact hI.others ((Kept.refl (fun _ => False) W).alloc _) (fun _ _ _ => id) (hI.2.1.alloc (hlt b (.inl rfl)) _)
    · exact hI.2.2
    · exact heap_alloc_new W _
  case body =>
    rintro l pre x a' W hl' ⟨⟨v, h1, h2⟩, h3, h4⟩ ⟨Bx, hBx, hb, rfl⟩ hlen
    have c5 : W.cell? ⟨w.heap.size, 0, none⟩ = some v := by rw [blk_cell h1]; rfl
    have x0 : W.cell? ⟨Bx, 0, none⟩ = some (.int .i64 x.c) := by rw [blk_cell hb]; rfl
    have x1 : W.cell? ⟨Bx, 1, none⟩ = some (.int .i64 x.t) := by rw [blk_cell hb]; rfl
    have x2 : W.cell? ⟨Bx, 2, none⟩ = some (.int .i64 x.i) := by rw [blk_cell hb]; rfl
    have hpl : pre.length ≤ 9999 := by omega
    have HV := Lib.hid h2
    have HX : Hid (∀ u ∈ x.cs, u.oneCell' = true) := by intro u hu; simp [It.cs] at hu; rcases hu with rfl | rfl | rfl <;> rfl
    have HN : Hid (∀ W2 v', (W.alloc (.cells #[.int .i64 x.c, .int .i64 x.t, .int .i64 x.i] 32)).grownBy W2 v.ownBlock → W2.ownsRow (w.heap.size + 3) 32 3 v' (pre.length + 1) (csL pre ++ x.cs) →
        (W2.cell? ⟨w.heap.size, 0, none⟩ = some v ∧ W2.frozen? ⟨w.heap.size, 0, none⟩ = false) ∧ roundEnd W0.heap.size (KeepB (TakeX (w.heap.size + 1 + 1) (w.heap.size + 1) b r)) (LeastI w b j r) (pre ++ [x]) W .normal { tmps := #[], defers := [] } (W2.setCell ⟨w.heap.size, 0, none⟩ v')) := by
      intro W2 v' hg ho
      exact least_round hlt hz h3 h4 h1 h2 hg ho
    clear h1 h2 h3 hb
    gi_wp2_with (gi_at_builtin; refine wpListIn_append_own _ rfl _ _ 24 rfl (w.heap.size + 3) 32 i0 (.agg #[.int .i64 0, .int .i64 0, .int .i64 0]) 3 24 Try.underlying24 hi hz0 hz1 hz2 rfl (by decide) _ _ _ rfl (HV.out.alloc _) ⟨W.heap.size, 0, none⟩ 1 1 x.cs rfl rfl (new_cells _ x rfl) HX.out (by unfold maxLen; omega) (by omega) (by simp; omega) ?_; intro v' W2 hown' hgrow _; obtain ⟨g', cap', rfl⟩ := ownsRow_succ hown'; obtain ⟨⟨hq1, hq2⟩, hq3⟩ := HN.out _ _ hgrow hown'; have HZ := Lib.hid hq3; clear hown' hgrow hq3)
    exact HZ.out
  case done =>
    rintro D xs W hD ⟨rfl, hp⟩ hI hK
    obtain ⟨v, h1, h2⟩ := hI.1
    have c5 : W.cell? ⟨w.heap.size, 0, none⟩ = some v := by rw [blk_cell h1]; rfl
    have HQ : Hid (LeastPost w b j r s m.toNat (.returned v) (W.putObj D (.deferred none))) := by
      obtain ⟨⟨v', h1', h2'⟩, h3', _⟩ := (hz ▸ LeastI.from w b j r (hlt b (.inl rfl)) : OwnFrom W0.heap.size (LeastI w b j r)).putObj (.deferred none) hI hD hK rfl
      have e : v' = v := by
        have hne : w.heap.size ≠ D := by omega
        rw [World.putObj_heap_other hne, h1] at h1'
        injection h1' with h1'
        injection h1' with h1'
        have := congrArg (fun a : Array Value => a[0]?) h1'
        simpa using this.symm
      subst e
      exact ⟨v', rfl, row_base h2' (by omega), hp.kept (kept_row (grownBy_putObj' W D (.deferred none))) (fun k hk e => by have := hlt k hk; cases e; omega), h3'⟩
    clear h1 h2 hp
    gi_wp2
    refine ⟨by simp, .inl ⟨_, _, rfl, run_takeDeferred hK, ?_⟩⟩
    exact ⟨v, results_tmp (t := 4) rfl _ _ _, HQ.out⟩
end Go.Proofs.Ytdhpphkkpjldfab
