/-
  The numbers ahead, as a list.
-/
import Derived.Test.YtcbgadjnheagmaaDoorWi4
import Derived.Maps.OwnIn
import Derived.OwnWalk
import Derived.Deep.AppendLies
import Derived.RangeFuncBox
import Derived.RangeFuncNested
namespace Go.Proofs.YtcbgadjnheagmaaDoor
set_option maxRecDepth 100000
set_option linter.unusedSimpArgs false
open Go Go.RowKit
attribute [local go_sem] Oper.semAt_some

def u32V (x : Nat) : Value := .int .u32 (x : Int)
theorem Tryd.infoU32 : (Tryd.prog.info? 23).map (fun i => (i.zero, i.size, i.bytes)) = some (some (.int .u32 0), 1, 4) := by kernel_rfl

/-- A list of numbers in a variable; of what there was the blocks of X alone may have turned. -/
structure LQ (F q : Nat) (X : Nat → Prop) (W0 : World) (l : List Nat) (W : World) : Prop where
  own : ∃ v, W.heap[q]? = some (.cells #[v] 22 (0, 0)) ∧ W.ownsRow F 23 1 v l.length (l.map u32V)
  kp : Kept X W0 W
section
variable {F q : Nat} {X : Nat → Prop} {W0 W W2 : World} {l : List Nat}
theorem LQ.step {row : Option Nat} (h : LQ F q X W0 l W) (hF : F = W0.heap.size) (hq : q < F) (hg : W.grownBy W2 row) (hr : ∀ r, row = some r → F ≤ r ∧ ∃ o : Obj, W.heap[r]? = some o ∧ o.isCells = false) : LQ F q X W0 l W2 := by
  obtain ⟨⟨v', h1, h2⟩, h4⟩ := h
  have hqb : W2.heap[q]? = W.heap[q]? := hg.block q (blk_lt h1) (fun e => by have := (hr q e.symm).1; omega)
  refine ⟨⟨v', hqb.trans h1, ?_⟩, h4.grown hg (fun k e => .inr (by have := (hr k e).1; omega))⟩
  refine h2.kept hg ?_
  rcases h2.2 with ⟨rfl, _⟩ | ⟨g', cap, cur, rfl, _, hgg, _⟩
  · exact .inl rfl
  · refine .inr (fun e => ?_)
    obtain ⟨_, o, ho, hc⟩ := hr g' (e.symm)
    rw [hgg] at ho
    cases ho
    cases hc
theorem LQ.snoc {v v' : Value} {o : Obj} {x : Nat} (hF : F = W0.heap.size) (hq : q < F) (hqX : X q)
    (h1 : W.heap[q]? = some (.cells #[v] 22 (0, 0))) (h2 : W.ownsRow F 23 1 v l.length (l.map u32V)) (h4 : Kept X W0 W)
    (hg : (W.alloc o).grownBy W2 v.ownBlock) (ho : W2.ownsRow F 23 1 v' (l.length + 1) (l.map u32V ++ [u32V x])) :
    (W2.cell? ⟨q, 0, none⟩ = some v ∧ W2.frozen? ⟨q, 0, none⟩ = false) ∧ KeepsFrom F W (W2.setCell ⟨q, 0, none⟩ v') ∧ KpF F X W (W2.setCell ⟨q, 0, none⟩ v') ∧ LQ F q X W0 (l ++ [x]) (W2.setCell ⟨q, 0, none⟩ v') := by
  have hne : ∀ k, v.ownBlock = some k → F ≤ k ∧ ∃ c f, W.heap[k]? = some (.cells c 23 f) := by
    intro k e
    rcases h2.2 with ⟨rfl, _⟩ | ⟨g', cap, cur, rfl, hb, hgg, _⟩
    · cases e
    · have : g' = k := by simpa [Value.ownBlock] using e
      subst this
      exact ⟨hb, _, _, hgg⟩
  have hne' : ∀ k, v'.ownBlock = some k → F ≤ k := by
    intro k e
    rcases ho.2 with ⟨rfl, _⟩ | ⟨g', cap, cur, rfl, hb, hgg, _⟩
    · cases e
    · have : g' = k := by simpa [Value.ownBlock] using e
      subst this
      exact hb
  have hqW : q < W.heap.size := blk_lt h1
  have hFW : F ≤ W.heap.size := by rw [hF]; exact h4.size
  have K1 : Kept (fun k => v.ownBlock = some k) W W2 := ((Kept.refl _ W).alloc o).grown hg (fun k e => .inl e)
  have b2 : W2.heap[q]? = some (.cells #[v] 22 (0, 0)) := (K1.block q hqW (fun e => by have := (hne q e).1; omega)).trans h1
  have KX : Kept (fun k => k = q ∨ v.ownBlock = some k) W (W2.setCell ⟨q, 0, none⟩ v') := (K1.mono (fun _ _ h => .inr h)).setCell (p := ⟨q, 0, none⟩) (.inl (.inl rfl)) _
  have b3 : (W2.setCell ⟨q, 0, none⟩ v').heap[q]? = some (.cells #[v'] 22 (0, 0)) := by rw [blk_set b2]; rfl
  refine ⟨⟨by rw [blk_cell b2]; rfl, blk_free b2 0⟩, ⟨KX.size, fun k ob hk hob hc => ?_⟩, fun k hk hx => ?_, ⟨⟨v', b3, ?_⟩, ?_⟩⟩
  · refine (KX.block k (blk_lt hob) ?_).trans hob
    rintro (e | e)
    · omega
    · obtain ⟨_, c, f, h5⟩ := hne k e
      rw [h5] at hob
      cases hob
      cases hc
  · refine KX.block k (by omega) ?_
    rintro (e | e)
    · exact hx (e ▸ hqX)
    · have := (hne k e).1; omega
  · have e : (l ++ [x]).map u32V = l.map u32V ++ [u32V x] := by simp
    have e2 : (l ++ [x]).length = l.length + 1 := by simp
    rw [e, e2]
    exact Kept.row ((Kept.refl (fun k => k = q) W2).setCell (p := ⟨q, 0, none⟩) (.inl rfl) _) ho (fun k hk e => by have := hne' k hk; omega)
  · exact h4.trans KX (fun i hi hx => by
      rcases hx with rfl | hx
      · exact hqX
      · have := (hne i hx).1; omega)
end

def RowP (w : World) (l : List Nat) (x : Ending) (w' : World) : Prop :=
  ∃ v, x = .returned v ∧ w'.ownsRow w.heap.size 23 1 v l.length (l.map u32V) ∧ Below w.heap.size w w'

set_option maxHeartbeats 2000000 in
/-- Early, whatever it is that is told. -/
theorem early_gen {w : World} {p : Option Addr} {L : List Nat} (hL : L.length ≤ 64)
    (hT : ∀ (w0 : World) (X : Nat → Prop), (∀ i, i < w.heap.size → ¬ X i) → ¬ X (w.heap.size + 1) → (∀ i, i < w.heap.size → w0.heap[i]? = w.heap[i]?) → w0.cell? ⟨w.heap.size + 1, 0, none⟩ = some (.pointer p) →
      TellsP (9 - 1) Tryd.prog 23 #[.pointer (some ⟨w.heap.size + 1, 0, none⟩)] (fun x : Nat => #[.int .u32 (x : Int)]) (fun A B => A = B) (KpF w0.heap.size X) (fun xs _ => xs = L) (fun pre x => pre ++ [x] <+: L) w0) :
    Calls Tryd.prog 12 #[.pointer p] w (RowP w L) := by
  obtain ⟨i0, hi, hz0, hz1, hz2⟩ := info_parts Tryd.infoU32
  refine (callsIn_wide (n := 9)).1 ?_
  refine callsIn_of_wp_marks Tryd.func12 rfl trivial ?_ rfl
  simp only [Tryd.ntmps12, List.size_toArray, List.length_cons, List.length_nil, Nat.reduceAdd, Nat.reduceSub, Array.replicate_succ, Array.replicate_zero, List.push_toArray, List.append_toArray, List.nil_append, List.cons_append]
  gi_wp2_with fail
  refine ⟨trivial, (callsIn_wide.2 (ahead_any _ _)).mono ?_⟩
  rintro x W0 ⟨rfl, hW0⟩
  have hz : W0.heap.size = w.heap.size + 2 := by rw [hW0]; simp
  have hk0 : Kept (fun _ => False) w W0 := by rw [hW0]; exact ((Kept.refl _ w).alloc _).alloc _
  have ck : W0.cell? ⟨w.heap.size + 1, 0, none⟩ = some (.pointer p) := by
    rw [hW0]
    have := heap_alloc_new (w.alloc (.cells #[.slice none 0 0] 22)) (.cells #[.pointer p] 24)
    rw [World.size_alloc] at this
    rw [blk_cell this]; rfl
  have bq : W0.heap[w.heap.size]? = some (.cells #[.slice none 0 0] 22 (0, 0)) := by
    rw [hW0, Below.heap_alloc _ _ _ (by simp)]
    exact heap_alloc_new w _
  have hsz1 : (w.alloc (.cells #[.slice none 0 0] 22)).heap.size = w.heap.size + 1 := by simp
  rw [hsz1]
  clear hW0 hsz1
  obtain ⟨q, hq⟩ : ∃ q, q = w.heap.size := ⟨_, rfl⟩
  obtain ⟨X, hX⟩ : ∃ X : Nat → Prop, X = fun k => k = q := ⟨_, rfl⟩
  have hTells := hT W0 X (fun i hi => by rw [hX]; omega) (by rw [hX]; omega) (fun i hi => hk0.block i hi id) ck
  have hqF : q < W0.heap.size := by omega
  have hXq : X q := by rw [hX]
  have h00 : LQ W0.heap.size q X W0 [] W0 := ⟨⟨_, by rw [hq]; exact bq, ⟨by simp, .inl ⟨rfl, rfl⟩⟩⟩, Kept.refl _ _⟩
  have HD : Hid (∀ W', LQ W0.heap.size q X W0 L W' → RowP w L (.returned ((W'.cell? ⟨q, 0, none⟩).getD undef)) W') := by
    rintro W' ⟨⟨v, h1, h2⟩, h3⟩
    refine ⟨v, by rw [blk_cell h1]; rfl, ⟨?_, ?_⟩⟩
    · refine ⟨h2.1, ?_⟩
      rcases h2.2 with h | ⟨g', cap, cur, e1, e2, e3⟩
      · exact .inl h
      · exact .inr ⟨g', cap, cur, e1, by omega, e3⟩
    · refine (hk0.mono (Y := X) (fun _ _ h => h.elim)).trans h3 (fun _ _ h => h) |>.below (fun k hk => ?_) (Nat.le_refl _)
      rw [hX] at hk; omega
  subst hq
  gi_wp2_with fail
  refine range_stateP (by omega) (gf := 23) (lb := #[.pointer (some ⟨w.heap.size + 1, 0, none⟩)]) rfl (enters_of Tryd.func23 (by kernel_rfl) rfl)
    (encs := fun x : Nat => #[.int .u32 (x : Int)]) (fun _ => rfl) hTells (Below.refl _ _)
    (fun A C ht => by cases ht; exact KeepsFrom.refl _ _) (fun h k => h.trans k)
    (fun W l' o o' hl' h1 h2 => fun i hi _ => World.putObj_heap_other (by omega))
    (LQ W0.heap.size w.heap.size X W0) (fun pre W W' row h hg hr => h.step rfl hqF hg hr) (fun xs A C h ht => by cases ht; exact h) (fun xs A C row h _ _ => h) h00
    (fun x a' _ => a' = { tmps := #[.pointer p, undef, .slice none 0 0, .pointer (some ⟨w.heap.size, 0, none⟩), .int .u32 (x : Int), .pointer p, .func (.func 23) #[] #[.pointer (some ⟨w.heap.size + 1, 0, none⟩)], .int .u32 (x : Int), undef, undef, undef, undef, undef], defers := [] })
    (fun x a' _ A C row h _ _ => h) ?assign ?body ?done
  case assign =>
    intro l' pre x W K hI hK
    gi_wp2
    exact hK _ _ (KeepsFrom.refl _ _) (KpF.refl _ _ _) hI rfl
  case body =>
    rintro l' pre x a' W hl' ⟨⟨v1, h1, h2⟩, h4⟩ rfl hlen
    have c5 : W.cell? ⟨w.heap.size, 0, none⟩ = some v1 := by rw [blk_cell h1]; rfl
    obtain ⟨N, hN⟩ : ∃ N, N = pre.length := ⟨_, rfl⟩
    have hNb : N ≤ 65 := by have := hlen.length_le; rw [List.length_append] at this; simp at this; omega
    have hWs : W0.heap.size ≤ W.heap.size := h4.size
    have HV : Hid (W.ownsRow W0.heap.size 23 1 v1 N (pre.map u32V)) := by show World.ownsRow _ _ _ _ _ _ _; rw [hN]; exact h2
    have HN : Hid (∀ W2 v', (W.alloc (.cells #[.int .u32 (x : Int)] 23)).grownBy W2 v1.ownBlock → W2.ownsRow W0.heap.size 23 1 v' (N + 1) (pre.map u32V ++ [u32V x]) →
        (W2.cell? ⟨w.heap.size, 0, none⟩ = some v1 ∧ W2.frozen? ⟨w.heap.size, 0, none⟩ = false) ∧ roundEnd W0.heap.size (KpF W0.heap.size X) (LQ W0.heap.size w.heap.size X W0) (pre ++ [x]) W .normal { tmps := #[], defers := [] } (W2.setCell ⟨w.heap.size, 0, none⟩ v')) := by
      intro W2 v' hg ho'
      rw [hN] at ho'
      have := LQ.snoc rfl hqF hXq h1 h2 h4 hg ho'
      exact ⟨this.1, this.2.1, this.2.2.1, this.2.2.2⟩
    have HNe := Lib.hid (World.news_of_block (heap_alloc_new W (.cells #[.int .u32 (x : Int)] 23)))
    clear h1 h2 h4 hN hlen hz hX hTells h00 hqF hXq hl'
    gi_wp2_with (gi_at_builtin; refine wpListIn_append_own_at _ rfl _ _ 22 rfl W0.heap.size 23 i0 (.int .u32 0) 1 4 Tryd.underlying22 hi hz0 hz1 hz2 rfl (by decide) _ N _ rfl (HV.out.alloc _) ⟨W.heap.size, 0, none⟩ 1 1 [u32V x] rfl rfl HNe.out (by intro u hu; simp at hu; subst hu; rfl) (by unfold maxLen; omega) (by omega) (by simp; omega) ?_; intro v' W2 hown' hgrow _ hat; obtain ⟨g', cap', rfl⟩ := ownsRow_succ hown'; obtain ⟨⟨hq1, hq2⟩, hq3⟩ := HN.out _ _ hgrow hown'; have HZ := Lib.hid hq3; clear hown' hgrow hq3 hat)
    exact HZ.out
  case done =>
    rintro D xs W hD rfl hI hK
    have hI2 := hI.step (W2 := W.putObj D (.deferred none)) rfl hqF (grownBy_putObj' W D (.deferred none)) (fun r e => by cases e; exact ⟨hD, _, hK, rfl⟩)
    have HQ := Lib.hid (HD.out _ hI2)
    obtain ⟨⟨v, h1, h2⟩, h3⟩ := hI
    have c5 : W.cell? ⟨w.heap.size, 0, none⟩ = some v := by rw [blk_cell h1]; rfl
    have c6 : (W.putObj D (.deferred none)).cell? ⟨w.heap.size, 0, none⟩ = some v := by
      obtain ⟨⟨v2, h5, _⟩, _⟩ := hI2
      have : (W.putObj D (.deferred none)).heap[w.heap.size]? = W.heap[w.heap.size]? := World.putObj_heap_other (by omega)
      exact (World.cell?_of_block this).trans c5
    have HQ2 : Hid (RowP w xs (.returned v) (W.putObj D (.deferred none))) := by
      have := HQ.out
      rw [c6] at this
      exact this
    clear HQ h1 h2 h3 hI2 hTells h00 hT
    gi_wp2
    refine ⟨by simp, .inl ⟨_, _, rfl, run_takeDeferred hK, ?_⟩⟩
    refine ⟨v, ?_, HQ2.out⟩
    exact (results_tmp (fn := Tryd.f12) (t := 2) rfl _ _ _)
theorem early_any {w : World} {b l e : Nat} (hW : WinAt w b l e) (hO : Wd.Ok l e) :
    Calls Tryd.prog 12 #[.pointer (some ⟨b, 0, none⟩)] w (RowP w (Wd.early l e)) := by
  refine early_gen (p := some ⟨b, 0, none⟩) ?_ ?_
  · unfold Wd.early; rw [List.length_map]; exact Wd.posE_length e
  · intro w0 X h1 h2 h3 h4
    have hb := blk_lt hW
    exact ahead_tells 8 (by omega) ((h3 b hb).trans hW) hO h4 (h1 b hb) h2
theorem early_none (w : World) : Calls Tryd.prog 12 #[.pointer none] w (RowP w []) :=
  early_gen (by simp) (fun w0 X h1 h2 h3 h4 => ahead_none 8 h4)
end Go.Proofs.YtcbgadjnheagmaaDoor
