/-
  A queue's waiters as a list; clocks.
-/
import Derived.Test.YtlmbbnkdiokabaaDoorSp4
import Derived.Maps.OwnIn
import Derived.Deep.AppendLies
import Derived.RangeFuncBox
import Derived.Laws.Bits64b
import Derived.Laws.Bits64
namespace Go.Proofs.YtlmbbnkdiokabaaDoor
set_option maxRecDepth 100000
set_option linter.unusedSimpArgs false
open Go Go.RowKit Sp
attribute [local go_sem] Oper.semAt_some

theorem Tryd.infoWt3 : (Tryd.prog.info? 71).map (fun i => (i.zero, i.size, i.bytes)) = some (some (.agg #[.int .i64 0, .int .u64 0, .int .i64 0]), 3, 24) := by kernel_rfl

/-- A list of waiters in a variable; of what there was the blocks of X alone may have turned. -/
structure LW (F q : Nat) (X : Nat → Prop) (W0 : World) (l : List Wt) (W : World) : Prop where
  own : ∃ v, W.heap[q]? = some (.cells #[v] 68 (0, 0)) ∧ W.ownsRow F 71 3 v l.length (csA l)
  kp : Kept X W0 W
section
variable {F q : Nat} {X : Nat → Prop} {W0 W W2 : World} {l : List Wt}
theorem LW.step {row : Option Nat} (h : LW F q X W0 l W) (hF : F = W0.heap.size) (hq : q < F) (hg : W.grownBy W2 row) (hr : ∀ r, row = some r → F ≤ r ∧ ∃ o : Obj, W.heap[r]? = some o ∧ o.isCells = false) : LW F q X W0 l W2 := by
  obtain ⟨⟨v', h1, h2⟩, h4⟩ := h
  have hqb : W2.heap[q]? = W.heap[q]? := hg.block q (blk_lt h1) (fun e => by have := (hr q e.symm).1; omega)
  refine ⟨⟨v', hqb.trans h1, ?_⟩, h4.grown hg (fun k e => .inr (by have := (hr k e).1; omega))⟩
  refine h2.kept hg ?_
  rcases h2.2 with ⟨rfl, _⟩ | ⟨g', cap, cur, rfl, _, hgg, _⟩
  · exact .inl rfl
  · refine .inr (fun e => ?_)
    obtain ⟨_, o, ho, hc⟩ := hr g' (e.symm)
    rw [hgg] at ho
    cases ho
    cases hc
theorem LW.below (h : LW F q X W0 l W) (hg : Below W.heap.size W W2) : LW F q X W0 l W2 := by
  obtain ⟨⟨v', h1, h2⟩, h4⟩ := h
  have hk := kept_of_below hg
  exact ⟨⟨v', (hg.block q (blk_lt h1)).trans h1, hk.row h2 (fun _ _ => id)⟩, h4.trans hk (fun _ _ h => h.elim)⟩
theorem LW.snoc {v v' : Value} {o : Obj} {x : Wt} (hF : F = W0.heap.size) (hq : q < F) (hqX : X q)
    (h1 : W.heap[q]? = some (.cells #[v] 68 (0, 0))) (h2 : W.ownsRow F 71 3 v l.length (csA l)) (h4 : Kept X W0 W)
    (hg : (W.alloc o).grownBy W2 v.ownBlock) (ho : W2.ownsRow F 71 3 v' (l.length + 1) (csA l ++ wc x)) :
    (W2.cell? ⟨q, 0, none⟩ = some v ∧ W2.frozen? ⟨q, 0, none⟩ = false) ∧ KeepsFrom F W (W2.setCell ⟨q, 0, none⟩ v') ∧ (∀ k, k < F → ¬ X k → (W2.setCell ⟨q, 0, none⟩ v').heap[k]? = W.heap[k]?) ∧ LW F q X W0 (l ++ [x]) (W2.setCell ⟨q, 0, none⟩ v') := by
  have hne : ∀ k, v.ownBlock = some k → F ≤ k ∧ ∃ c f, W.heap[k]? = some (.cells c 71 f) := by
    intro k e
    rcases h2.2 with ⟨rfl, _⟩ | ⟨g', cap, cur, rfl, hb, hgg, _⟩
    · cases e
    · have : g' = k := by simpa [Value.ownBlock] using e
      subst this
      exact ⟨hb, _, _, hgg⟩
  have hne' : ∀ k, v'.ownBlock = some k → F ≤ k := by
    intro k e
    rcases ho.2 with ⟨rfl, _⟩ | ⟨g', cap, cur, rfl, hb, hgg, _⟩
    · cases e
    · have : g' = k := by simpa [Value.ownBlock] using e
      subst this
      exact hb
  have hqW : q < W.heap.size := blk_lt h1
  have hFW : F ≤ W.heap.size := by rw [hF]; exact h4.size
  have K1 : Kept (fun k => v.ownBlock = some k) W W2 := ((Kept.refl _ W).alloc o).grown hg (fun k e => .inl e)
  have b2 : W2.heap[q]? = some (.cells #[v] 68 (0, 0)) := (K1.block q hqW (fun e => by have := (hne q e).1; omega)).trans h1
  have KX : Kept (fun k => k = q ∨ v.ownBlock = some k) W (W2.setCell ⟨q, 0, none⟩ v') := (K1.mono (fun _ _ h => .inr h)).setCell (p := ⟨q, 0, none⟩) (.inl (.inl rfl)) _
  have b3 : (W2.setCell ⟨q, 0, none⟩ v').heap[q]? = some (.cells #[v'] 68 (0, 0)) := by rw [blk_set b2]; rfl
  refine ⟨⟨by rw [blk_cell b2]; rfl, blk_free b2 0⟩, ⟨KX.size, fun k ob hk hob hc => ?_⟩, fun k hk hx => ?_, ⟨⟨v', b3, ?_⟩, ?_⟩⟩
  · refine (KX.block k (blk_lt hob) ?_).trans hob
    rintro (e | e)
    · omega
    · obtain ⟨_, c, f, h5⟩ := hne k e
      rw [h5] at hob
      cases hob
      cases hc
  · refine KX.block k (by omega) ?_
    rintro (e | e)
    · exact hx (e ▸ hqX)
    · have := (hne k e).1; omega
  · have e : csA (l ++ [x]) = csA l ++ wc x := by rw [csA_append]; simp [csA]
    have e2 : (l ++ [x]).length = l.length + 1 := by simp
    rw [e, e2]
    exact Kept.row ((Kept.refl (fun k => k = q) W2).setCell (p := ⟨q, 0, none⟩) (.inl rfl) _) ho (fun k hk e => by have := hne' k hk; omega)
  · exact h4.trans KX (fun i hi hx => by
      rcases hx with rfl | hx
      · exact hqX
      · have := (hne i hx).1; omega)
end

def LWs (F q : Nat) (X : Nat → Prop) (W0 : World) (pre : List (Nat × Wt)) (W : World) : Prop := LW F q X W0 (pre.map (fun x => x.2)) W
theorem LWs.step {F q : Nat} {X : Nat → Prop} {W0 W W2 : World} {l : List (Nat × Wt)} {row : Option Nat} (h : LWs F q X W0 l W) (hF : F = W0.heap.size) (hq : q < F) (hg : W.grownBy W2 row) (hr : ∀ r, row = some r → F ≤ r ∧ ∃ o : Obj, W.heap[r]? = some o ∧ o.isCells = false) : LWs F q X W0 l W2 := LW.step h hF hq hg hr
theorem LWs.below {F q : Nat} {X : Nat → Prop} {W0 W W2 : World} {l : List (Nat × Wt)} (h : LWs F q X W0 l W) (hg : Below W.heap.size W W2) : LWs F q X W0 l W2 := LW.below h hg
/-- A list of waiters that is told: new memory. -/
def WtP (w : World) (l : List Wt) (x : Ending) (w' : World) : Prop :=
  ∃ v, x = .returned v ∧ w'.ownsRow w.heap.size 71 3 v l.length (csA l) ∧ Below w.heap.size w w'

set_option maxHeartbeats 4000000 in
/-- All. -/
theorem all_any {w : World} {p : Option Addr} {l : List Wt} (h : QP w p l) :
    Calls Tryd.prog 51 #[.pointer p] w (WtP w l) := by
  obtain ⟨i0, hi, hz0, hz1, hz2⟩ := info_parts Tryd.infoWt3
  have hl8 := h.len8
  have hol : ∀ k, OfP p k → k < w.heap.size := fun k hk => h.lt hk
  refine (callsIn_wide (n := 9)).1 ?_
  refine callsIn_of_wp_marks Tryd.func51 rfl trivial ?_ rfl
  simp only [Tryd.ntmps51, List.size_toArray, List.length_cons, List.length_nil, Nat.reduceAdd, Nat.reduceSub, Array.replicate_succ, Array.replicate_zero, List.push_toArray, List.append_toArray, List.nil_append, List.cons_append]
  have HH := Lib.hid h
  clear h
  gi_wp2_with fail
  refine ⟨trivial, (callsIn_wide.2 (told_any _ _)).mono ?_⟩
  rintro x W0 ⟨rfl, hW0⟩
  have hz : W0.heap.size = w.heap.size + 2 := by rw [hW0]; simp
  have hk0 : Kept (fun _ => False) w W0 := by rw [hW0]; exact ((Kept.refl _ w).alloc _).alloc _
  have ck : W0.cell? ⟨w.heap.size + 1, 0, none⟩ = some (.pointer p) := by
    rw [hW0]
    have := World.alloc_heap_new (w.alloc (.cells #[.slice none 0 0] 68)) (.cells #[.pointer p] 117)
    rw [World.size_alloc] at this
    rw [blk_cell this]; rfl
  have bq : W0.heap[w.heap.size]? = some (.cells #[.slice none 0 0] 68 (0, 0)) := by
    rw [hW0, Below.heap_alloc _ _ _ (by simp)]
    exact World.alloc_heap_new w _
  have hsz1 : (w.alloc (.cells #[.slice none 0 0] 68)).heap.size = w.heap.size + 1 := by simp
  rw [hsz1]
  clear hW0 hsz1
  have hq0 : QP W0 p l := HH.out.kept hk0 (fun _ _ => id)
  obtain ⟨q, hq⟩ : ∃ q, q = w.heap.size := ⟨_, rfl⟩
  obtain ⟨X, hX⟩ : ∃ X : Nat → Prop, X = fun k => k = q := ⟨_, rfl⟩
  obtain ⟨S, hS⟩ : ∃ S : Nat → Prop, S = fun k => OfP p k ∨ k = w.heap.size + 1 := ⟨_, rfl⟩
  have HSF : Hid (∀ k, S k → k < W0.heap.size ∧ ¬ X k) := by
    intro k hk
    rw [hS] at hk
    rw [hX, hq]
    rcases hk with hk | hk
    · have := hol k hk; exact ⟨by omega, by omega⟩
    · exact ⟨by omega, by omega⟩
  have hTells := told_tells (9 - 1) (by omega) hq0 ck (S := S) (fun k hk => by rw [hS]; exact hk) (fun k hk => (HSF.out k hk).1)
  have hqF : q < W0.heap.size := by omega
  have hXq : X q := by rw [hX]
  have h00 : LW W0.heap.size q X W0 [] W0 := ⟨⟨_, by rw [hq]; exact bq, ⟨by simp [csA], .inl ⟨rfl, rfl⟩⟩⟩, Kept.refl _ _⟩
  have HD : Hid (∀ W', LW W0.heap.size q X W0 l W' → WtP w l (.returned ((W'.cell? ⟨q, 0, none⟩).getD undef)) W') := by
    rintro W' ⟨⟨v, h1, h2⟩, h3⟩
    refine ⟨v, by rw [blk_cell h1]; rfl, ⟨?_, ?_⟩⟩
    · refine ⟨h2.1, ?_⟩
      rcases h2.2 with h | ⟨g', cap, cur, e1, e2, e3⟩
      · exact .inl h
      · exact .inr ⟨g', cap, cur, e1, by omega, e3⟩
    · refine (hk0.mono (Y := X) (fun _ _ h => h.elim)).trans h3 (fun _ _ h => h) |>.below (fun k hk => ?_) (Nat.le_refl _)
      rw [hX] at hk; omega
  have htel : (tel l).map (fun x => x.2) = l := by
    apply List.ext_getElem?
    intro i
    rw [List.getElem?_map]
    by_cases hi : i < l.length
    · rw [tel_get hi]; simp [List.getD, hi]
    · rw [List.getElem?_eq_none (by rw [tel_length]; omega), List.getElem?_eq_none (by omega)]; rfl
  clear hS
  subst hq
  gi_wp2_with fail
  refine range_stateP (by omega) (gf := 80) (lb := #[.pointer (some ⟨w.heap.size + 1, 0, none⟩)]) rfl (enters_of Tryd.func80 (by kernel_rfl) rfl)
    (encs := enW) (fun _ => rfl) hTells (Below.refl _ _)
    (fun A C ht => by cases ht; exact KeepsFrom.refl _ _) (fun h k => h.trans k)
    (fun W l' o o' hl' h1 h2 => fun i hi => World.putObj_heap_other (by have := (HSF.out i hi).1; omega))
    (LWs W0.heap.size w.heap.size X W0) (fun pre W W' row h hg hr => h.step rfl hqF hg hr) (fun xs A C h ht => by cases ht; exact h) (fun xs A C row h _ _ => h) h00
    (fun x a' W => ∃ bk, W0.heap.size ≤ bk ∧ W.heap[bk]? = some (.cells #[.int .i64 x.2.r, .int .u64 x.2.s, .int .i64 x.2.p] 71 (0, 0)) ∧ a' = { tmps := #[.pointer p, undef, .slice none 0 0, .pointer (some ⟨w.heap.size, 0, none⟩), undef, .pointer (some ⟨bk, 0, none⟩), .pointer p, .func (.func 80) #[] #[.pointer (some ⟨w.heap.size + 1, 0, none⟩)], .int .i64 ((x.1 % 8 : Nat) : Int), wv x.2, undef, undef, undef, undef, undef], defers := [] })
    ?hAx ?assign ?body ?done
  case hAx =>
    rintro x a' _ W W' row ⟨bk, h1, h2, h3⟩ hg hr
    refine ⟨bk, h1, (hg.block bk (blk_lt h2) (fun e => ?_)).trans h2, h3⟩
    obtain ⟨_, o1, h4, h5⟩ := hr bk e.symm
    rw [h2] at h4
    cases h4
    cases h5
  case assign =>
    intro l' pre x W K hI hK
    have hsz : W0.heap.size ≤ W.heap.size := (LW.kp hI).size
    obtain ⟨i, ⟨r1, s1, p1⟩⟩ := x
    simp only [enW, wv] at *
    generalize i % 8 = i8 at *
    gi_wp2
    refine hK _ _ ⟨by simp, fun k o hk ho hc => (Below.heap_alloc _ _ _ (blk_lt ho)).trans ho⟩ ?_ (hI.below ((Below.refl _ W).alloc (Nat.le_refl _) _)) ⟨W.heap.size, hsz, World.alloc_heap_new _ _, rfl⟩
    intro k hk
    exact Below.heap_alloc _ _ _ (by have := (HSF.out k hk).1; omega)
  case body =>
    rintro l' pre x a' W hl' ⟨⟨v1, h1, h2⟩, h4⟩ ⟨bk, hbk, hbx, rfl⟩ hlen
    have c5 : W.cell? ⟨w.heap.size, 0, none⟩ = some v1 := by rw [blk_cell h1]; rfl
    have q0 : W.cell? ⟨bk, 0, none⟩ = some (.int .i64 x.2.r) := by rw [blk_cell hbx]; rfl
    have q1 : W.cell? ⟨bk, 1, none⟩ = some (.int .u64 x.2.s) := by rw [blk_cell hbx]; rfl
    have q2 : W.cell? ⟨bk, 2, none⟩ = some (.int .i64 x.2.p) := by rw [blk_cell hbx]; rfl
    obtain ⟨N, hN⟩ : ∃ N, N = pre.length := ⟨_, rfl⟩
    have hNb : N ≤ 8 := by have := hlen.length_le; rw [List.length_append, tel_length] at this; simp at this; omega
    have hWs : W0.heap.size ≤ W.heap.size := h4.size
    have hN2 : (pre.map (fun x => x.2)).length = N := by rw [hN]; simp
    have HV : Hid (W.ownsRow W0.heap.size 71 3 v1 N (csA (pre.map (fun x => x.2)))) := by show World.ownsRow _ _ _ _ _ _ _; rw [← hN2]; exact h2
    have HN : Hid (∀ W2 v', (W.alloc (.cells #[.int .i64 x.2.r, .int .u64 x.2.s, .int .i64 x.2.p] 71)).grownBy W2 v1.ownBlock → W2.ownsRow W0.heap.size 71 3 v' (N + 1) (csA (pre.map (fun x => x.2)) ++ wc x.2) →
        (W2.cell? ⟨w.heap.size, 0, none⟩ = some v1 ∧ W2.frozen? ⟨w.heap.size, 0, none⟩ = false) ∧ roundEnd W0.heap.size (KpT S) (LWs W0.heap.size w.heap.size X W0) (pre ++ [x]) W .normal { tmps := #[], defers := [] } (W2.setCell ⟨w.heap.size, 0, none⟩ v')) := by
      intro W2 v' hg ho'
      rw [← hN2] at ho'
      have := LW.snoc rfl hqF hXq h1 h2 h4 hg ho'
      refine ⟨this.1, this.2.1, fun k hk => this.2.2.1 k (HSF.out k hk).1 (HSF.out k hk).2, ?_⟩
      show LW _ _ _ _ ((pre ++ [x]).map (fun x => x.2)) _
      rw [List.map_append]
      exact this.2.2.2
    have HNe := Lib.hid (World.news_of_block (World.alloc_heap_new W (.cells #[.int .i64 x.2.r, .int .u64 x.2.s, .int .i64 x.2.p] 71)))
    clear h1 h2 h4 hN hN2 hlen hz hX hTells h00 hqF hXq hl' hbx hbk
    simp only [wv, wc] at *
    generalize x.2.r = x0 at *
    generalize x.2.s = x1 at *
    generalize x.2.p = x2 at *
    gi_wp2_with (gi_at_builtin; refine wpListIn_append_own_at _ rfl _ _ 68 rfl W0.heap.size 71 i0 (.agg #[.int .i64 0, .int .u64 0, .int .i64 0]) 3 24 Tryd.underlying68 hi hz0 hz1 hz2 rfl (by decide) _ N _ rfl (HV.out.alloc _) ⟨W.heap.size, 0, none⟩ 1 1 [.int .i64 x0, .int .u64 x1, .int .i64 x2] rfl rfl HNe.out (by intro u hu; simp at hu; rcases hu with rfl | rfl | rfl <;> rfl) (by unfold maxLen; omega) (by omega) (by simp; omega) ?_; intro v' W2 hown' hgrow _ hat; obtain ⟨g', cap', rfl⟩ := ownsRow_succ hown'; obtain ⟨⟨hq1, hq2⟩, hq3⟩ := HN.out _ _ hgrow hown'; have HZ := Lib.hid hq3; clear hown' hgrow hq3 hat)
    exact HZ.out
  case done =>
    rintro D xs W hD rfl hI hK
    have hI2 := hI.step (W2 := W.putObj D (.deferred none)) rfl hqF (grownBy_putObj' W D (.deferred none)) (fun r e => by cases e; exact ⟨hD, _, hK, rfl⟩)
    unfold LWs at hI hI2
    rw [htel] at hI hI2
    have HQ := Lib.hid (HD.out _ hI2)
    obtain ⟨⟨v, h1, h2⟩, h3⟩ := hI
    have c5 : W.cell? ⟨w.heap.size, 0, none⟩ = some v := by rw [blk_cell h1]; rfl
    have c6 : (W.putObj D (.deferred none)).cell? ⟨w.heap.size, 0, none⟩ = some v := by
      obtain ⟨⟨v2, h5, _⟩, _⟩ := hI2
      have : (W.putObj D (.deferred none)).heap[w.heap.size]? = W.heap[w.heap.size]? := World.putObj_heap_other (by omega)
      exact (World.cell?_of_block this).trans c5
    have HQ2 : Hid (WtP w l (.returned v) (W.putObj D (.deferred none))) := by
      have := HQ.out
      rw [c6] at this
      exact this
    clear HQ h1 h2 h3 hI2 hTells h00
    gi_wp2
    refine ⟨by simp, .inl ⟨_, _, rfl, run_takeDeferred hK, ?_⟩⟩
    refine ⟨v, ?_, HQ2.out⟩
    exact (results_tmp (fn := Tryd.f51) (t := 2) rfl _ _ _)

end Go.Proofs.YtlmbbnkdiokabaaDoor
