/- Joined texts: SgYd, SgYo, SgYc, SgLf, SgYs. -/
import Derived.Test.YtekhlaodlagbdaaGreatDoorSgYn
import Derived.Test.YtekhlaodlagbdaaGreatDoorRows
import Derived.Sort.Grow
import Derived.Shelf.SlLaysF0
import Derived.Shelf.SlSortCmp.NoneTotal

/-
  Lists of doors in a variable; segment.Plan.Doors, but for its sorting.
-/
namespace Go.Proofs.YtekhlaodlagbdaaGreatDoor
set_option maxRecDepth 100000
set_option linter.unusedSimpArgs false
open Go Go.RowKit
attribute [local go_sem] Oper.semAt_some

/-- A door's two cells. -/
def prV (d : Nat × Nat) : List Value := [.int .i64 (d.1 : Int), .int .i64 (d.2 : Int)]
/-- The list of doors that are told. -/
structure PutD (B : Nat) (v0 : Value) (l : List (Nat × Nat)) (F : Nat) (X : Nat → Prop) (q : Nat) (W0 : World) (pre : List (Nat × Nat)) (W : World) : Prop where
  own : ∃ v', W.heap[q]? = some (.cells #[v'] 43 (0, 0)) ∧ W.ownsRow B 22 2 v' (l ++ pre).length ((l ++ pre).flatMap prV) ∧ (v'.ownBlock = v0.ownBlock ∨ ∀ k, v'.ownBlock = some k → F ≤ k)
  kp : KpQ F X q W0 W
section
variable {B F q : Nat} {v0 : Value} {l : List (Nat × Nat)} {X : Nat → Prop} {W0 : World}
theorem PutD.from (hF : F = W0.heap.size) (hq : q < F) (_ : True) : OwnFrom F (PutD B v0 l F X q W0) := by
  rintro pre W W' row ⟨⟨v', h1, h2, h3⟩, h4⟩ hg hr
  have hqb : W'.heap[q]? = W.heap[q]? := hg.block q (blk_lt h1) (fun e => by have := (hr q e.symm).1; omega)
  refine ⟨⟨v', hqb.trans h1, ?_, h3⟩, h4.grown hg (by omega) hq hr⟩
  refine h2.kept hg ?_
  rcases h2.2 with ⟨rfl, _⟩ | ⟨g', cap, cur, rfl, _, hgg, _⟩
  · exact .inl rfl
  · refine .inr (fun e => ?_)
    obtain ⟨_, o, ho, hc⟩ := hr g' (e.symm)
    rw [hgg] at ho
    cases ho
    cases hc
theorem PutD.take (hq : q < F) {pre : List (Nat × Nat)} {A C : World} (h : PutD B v0 l F X q W0 pre A) (hb : Below A.heap.size A C) (hF : F ≤ A.heap.size) : PutD B v0 l F X q W0 pre C := by
  obtain ⟨⟨v', h1, h2, h3⟩, h4⟩ := h
  have hk : Kept (fun _ => False) A C := Kept.of_below hb (Nat.le_refl _)
  exact ⟨⟨v', (hk.block q (by omega) id).trans h1, hk.row h2 (fun _ _ => id), h3⟩, h4.trans (KpQ.of_kept hk hF (by omega) (fun _ => id))⟩
/-- One more cell. -/
theorem putd_round {pre : List (Nat × Nat)} {x : Nat × Nat} {W W2 : World} {v v' : Value} {o : Obj} {a : Act} (hF : F = W0.heap.size) (hq : q < F) (hqX : X q) (hX : ∀ k, v0.ownBlock = some k → X k)
    (h1 : W.heap[q]? = some (.cells #[v] 43 (0, 0))) (h2 : W.ownsRow B 22 2 v (l ++ pre).length ((l ++ pre).flatMap prV)) (h3 : v.ownBlock = v0.ownBlock ∨ ∀ k, v.ownBlock = some k → F ≤ k) (h4 : KpQ F X q W0 W)
    (hg : (W.alloc o).grownBy W2 v.ownBlock) (ho : W2.ownsRow B 22 2 v' ((l ++ pre).length + 1) ((l ++ pre).flatMap prV ++ prV x)) (hv : v'.ownBlock = v.ownBlock ∨ v'.ownBlock = some (W.alloc o).heap.size) :
    (W2.cell? ⟨q, 0, none⟩ = some v ∧ W2.frozen? ⟨q, 0, none⟩ = false) ∧ roundEnd F (KpQ F X q) (PutD B v0 l F X q W0) (pre ++ [x]) W .normal a (W2.setCell ⟨q, 0, none⟩ v') := by
  have hne : ∀ k, v.ownBlock = some k → k ≠ q ∧ ∃ c f, W.heap[k]? = some (.cells c 22 f) := by
    intro k e
    rcases h2.2 with ⟨rfl, _⟩ | ⟨g', cap, cur, rfl, _, hgg, _⟩
    · cases e
    · have : g' = k := by simpa [Value.ownBlock] using e
      subst this
      refine ⟨fun e2 => ?_, _, _, hgg⟩
      subst e2
      rw [h1] at hgg
      injection hgg with hgg
      injection hgg with _ h _
      exact absurd h (by decide)
  have hqW : q < W.heap.size := blk_lt h1
  have hFW : F ≤ W.heap.size := by rw [hF]; exact h4.size
  have K1 : Kept (fun k => v.ownBlock = some k) W W2 := ((Kept.refl _ W).alloc o).grown hg (fun k e => .inl e)
  have b2 : W2.heap[q]? = some (.cells #[v] 43 (0, 0)) := (K1.block q hqW (fun e => (hne q e).1 rfl)).trans h1
  have KX : Kept (fun k => k = q ∨ v.ownBlock = some k) W (W2.setCell ⟨q, 0, none⟩ v') := (K1.mono (fun _ _ h => .inr h)).setCell (p := ⟨q, 0, none⟩) (.inl (.inl rfl)) _
  have hs3 : W2.heap.size ≤ (W2.setCell ⟨q, 0, none⟩ v').heap.size := by simp
  have b3 : (W2.setCell ⟨q, 0, none⟩ v').heap[q]? = some (.cells #[v'] 43 (0, 0)) := by rw [blk_set b2]; rfl
  have hv'lt : ∀ k, v'.ownBlock = some k → k < W2.heap.size := fun k e => (ho.lt k e).2
  have hpq : ∀ k, PQ q (W2.setCell ⟨q, 0, none⟩ v') k → k = q ∨ v'.ownBlock = some k := by
    rintro k (e | ⟨u, hu, e⟩)
    · exact .inl e
    · rw [blk_cell b3] at hu
      have : v' = u := by simpa using hu
      exact .inr (this ▸ e)
  have hpqW : ∀ k, v.ownBlock = some k → PQ q W k := fun k e => .inr ⟨v, by rw [blk_cell h1]; rfl, e⟩
  refine ⟨⟨by rw [blk_cell b2]; rfl, blk_free b2 0⟩, ⟨KX.size, ?_⟩, ⟨KX.os, KX.tape, KX.output, KX.size, fun k hk hx => ?_, fun k ob hk hc hn => ?_, fun k hk => ?_, fun hl k hk => ?_⟩, ⟨⟨v', b3, ?_, ?_⟩, ?_⟩⟩
  · intro k ob hk hob hc
    refine (KX.block k (blk_lt hob) ?_).trans hob
    rintro (e | e)
    · omega
    · obtain ⟨_, c, f, h5⟩ := hne k e
      rw [h5] at hob
      cases hob
      cases hc
  · refine KX.block k (by omega) ?_
    rintro (e | e)
    · exact hx (e ▸ hqX)
    · rcases h3 with h | h
      · exact hx (hX k (h ▸ e))
      · have := h k e; omega
  · refine (KX.block k (blk_lt hk) ?_).trans hk
    rintro (e | e)
    · exact hn (.inl e)
    · exact hn (hpqW k e)
  · rcases hpq k hk with e | e
    · exact .inl (.inl e)
    · rcases hv with h | h
      · exact .inl (hpqW k (h ▸ e))
      · rw [h] at e
        injection e with e
        right
        rw [← e]
        simp
  · rcases hpq k hk with e | e
    · have := KX.size; omega
    · have := hv'lt k e; omega
  · have e : (l ++ (pre ++ [x])).flatMap prV = (l ++ pre).flatMap prV ++ prV x := by simp
    have e2 : (l ++ (pre ++ [x])).length = (l ++ pre).length + 1 := by simp; omega
    rw [e, e2]
    refine Kept.row ((Kept.refl (fun k => k = q) W2).setCell (p := ⟨q, 0, none⟩) (.inl rfl) _) ho (fun k hk e => ?_)
    rcases hv with h | h
    · exact (hne k (h ▸ hk)).1 e
    · rw [h] at hk
      injection hk with hk
      have : (W.alloc o).heap.size = W.heap.size + 1 := by simp
      omega
  · rcases hv with h | h
    · rw [h]; exact h3
    · right
      intro k e
      rw [h] at e
      injection e with e
      have : (W.alloc o).heap.size = W.heap.size + 1 := by simp
      omega
  · refine h4.trans ⟨KX.os, KX.tape, KX.output, KX.size, fun k hk hx => ?_, fun k ob hk hc hn => ?_, fun k hk => ?_, fun hl k hk => ?_⟩
    · refine KX.block k (by omega) ?_
      rintro (e | e)
      · exact hx (e ▸ hqX)
      · rcases h3 with h | h
        · exact hx (hX k (h ▸ e))
        · have := h k e; omega
    · refine (KX.block k (blk_lt hk) ?_).trans hk
      rintro (e | e)
      · exact hn (.inl e)
      · exact hn (hpqW k e)
    · rcases hpq k hk with e | e
      · exact .inl (.inl e)
      · rcases hv with h | h
        · exact .inl (hpqW k (h ▸ e))
        · rw [h] at e
          injection e with e
          right
          rw [← e]
          simp
    · rcases hpq k hk with e | e
      · have := KX.size; omega
      · have := hv'lt k e; omega
end


theorem heap5 (w : World) (o1 o2 o3 o4 o5 : Obj) : (((((w.alloc o1).alloc o2).alloc o3).alloc o4).alloc o5).heap[w.heap.size]? = some o1 ∧ (((((w.alloc o1).alloc o2).alloc o3).alloc o4).alloc o5).heap[w.heap.size + 1]? = some o2 ∧ (((((w.alloc o1).alloc o2).alloc o3).alloc o4).alloc o5).heap[w.heap.size + 1 + 1]? = some o3 ∧ (((((w.alloc o1).alloc o2).alloc o3).alloc o4).alloc o5).heap[w.heap.size + 1 + 1 + 1]? = some o4 ∧ (((((w.alloc o1).alloc o2).alloc o3).alloc o4).alloc o5).heap[w.heap.size + 1 + 1 + 1 + 1]? = some o5 := by
  obtain ⟨h1, h2, h3, h4⟩ := heap4 w o1 o2 o3 o4
  refine ⟨?_, ?_, ?_, ?_, ?_⟩
  · rw [Below.heap_alloc _ _ _ (by simp only [World.size_alloc]; omega)]; exact h1
  · rw [Below.heap_alloc _ _ _ (by simp only [World.size_alloc]; omega)]; exact h2
  · rw [Below.heap_alloc _ _ _ (by simp only [World.size_alloc]; omega)]; exact h3
  · rw [Below.heap_alloc _ _ _ (by simp only [World.size_alloc]; omega)]; exact h4
  · have := World.alloc_heap_new ((((w.alloc o1).alloc o2).alloc o3).alloc o4) o5
    rwa [World.size_alloc, World.size_alloc, World.size_alloc, World.size_alloc] at this
theorem Tryz.infoPair : (Tryz.prog.info? 22).map (fun i => (i.zero, i.size, i.bytes)) = some (some (.agg #[.int .i64 0, .int .i64 0]), 2, 16) := by kernel_rfl

/-- A list of doors of memory of its own. -/
def DoP (w : World) (l : List (Nat × Nat)) (e : Ending) (w' : World) : Prop := ∃ v, e = .returned v ∧ w'.ownsRow w.heap.size 22 2 v l.length (l.flatMap prV) ∧ Below w.heap.size w w'
/-- Doors in order. -/
def srtD (l : List (Nat × Nat)) : List (Nat × Nat) := l.mergeSort fun x y => decide (x.1 < y.1 ∨ x.1 = y.1 ∧ x.2 ≤ y.2)
theorem srtD_length (l : List (Nat × Nat)) : (srtD l).length = l.length := by simp [srtD]
/-- What the sorting of doors answers. -/
def SortsD (B : Nat) : Prop := ∀ (W : World) (v : Value) (l : List (Nat × Nat)), W.ownsRow B 22 2 v l.length (l.flatMap prV) → l.length ≤ 5000 →
  Calls Tryz.prog 66 #[v, .func (.func 67) #[] #[]] W fun e w' => e = .returned (.tuple #[]) ∧ w'.ownsRow B 22 2 v (srtD l).length ((srtD l).flatMap prV) ∧ Kept (fun k => v.ownBlock = some k) W w'

set_option maxHeartbeats 4000000 in
theorem pdoors_of {bm gm cm R C p s : Nat} {ms : List UInt8} {st : Sg.Pl} {w : World} (h : PlanS bm gm cm R C ms p st w) (hN : R * C = ms.length) (hs : s < st.cells.length) (hl0 : 0 < (st.cells.getD s []).length) (hll : (st.cells.getD s []).length ≤ 1024) (hlN : ∀ a ∈ st.cells.getD s [], a < ms.length) (t : Int)
    (hof : ∀ d ∈ dorF R C ms st s, d.2 < ms.length) (hSort : SortsD w.heap.size) :
    Calls Tryz.prog 26 #[.pointer (some ⟨p, 0, none⟩), .int .i64 (s : Int), .int .i64 t] w (DoP w (srtD ((dorF R C ms st s).filter fun d => st.of.getD d.2 0 == t))) := by
  obtain ⟨i0, hi, hz0, hz1, hz2⟩ := info_parts Tryz.infoPair
  obtain ⟨bo, g, gl, cap, cl, hD⟩ := dor_cells h hs hl0
  have hD0 := hD w (Below.refl _ w)
  have hpw : p < w.heap.size := World.block_lt_of_cell? w _ hD0.c0
  have hbow : bo < w.heap.size := by
    have := hD0.co 0 (by obtain ⟨a, ha⟩ := List.exists_mem_of_length_pos hl0; have := hlN a ha; omega)
    exact World.block_lt_of_cell? w _ this
  have HSort := Lib.hid hSort
  clear hSort
  obtain ⟨fT, hfT⟩ : ∃ fT : Nat × Nat → Bool, fT = fun d => st.of.getD d.2 0 == t := ⟨_, rfl⟩
  have hdl := dorK_len (R := R) (C := C) (ms := ms) (st := st) (s := s) (st.cells.getD s []) (st.cells.getD s []).length
  rw [← hfT]
  refine (callsIn_wide (n := 9)).1 ?_
  refine callsIn_of_wp_marks Tryz.func26 rfl trivial ?_ rfl
  simp only [Tryz.ntmps26, List.size_toArray, List.length_cons, List.length_nil, Nat.reduceAdd, Nat.reduceSub, Array.replicate_succ, Array.replicate_zero, List.push_toArray, List.append_toArray, List.nil_append, List.cons_append]
  gi_wp2_with fail
  refine ⟨trivial, (callsIn_wide.2 (doors_any _ _ _)).mono ?_⟩
  rintro e W0 ⟨rfl, hW0⟩
  have hz : W0.heap.size = w.heap.size + 5 := by rw [hW0]; simp [doorW]
  have hk0 : Kept (fun _ => False) w W0 := by rw [hW0]; exact (((((Kept.refl _ w).alloc _).alloc _).alloc _).alloc _).alloc _
  obtain ⟨b1, b2, b3, b4, b5⟩ := heap5 w (.cells #[.pointer (some ⟨p, 0, none⟩)] 31) (.cells #[.int .i64 t] 3) (.cells #[.slice none 0 0] 43) (.cells #[.pointer (some ⟨p, 0, none⟩)] 31) (.cells #[.int .i64 (s : Int)] 3)
  rw [show ((((w.alloc (.cells #[.pointer (some ⟨p, 0, none⟩)] 31)).alloc (.cells #[.int .i64 t] 3)).alloc (.cells #[.slice none 0 0] 43)).alloc (.cells #[.pointer (some ⟨p, 0, none⟩)] 31)).alloc (.cells #[.int .i64 (s : Int)] 3) = W0 from hW0.symm] at b1 b2 b3 b4 b5
  have hsz1 : (((w.alloc (.cells #[.pointer (some ⟨p, 0, none⟩)] 31)).alloc (.cells #[.int .i64 t] 3)).alloc (.cells #[.slice none 0 0] 43)).heap.size = w.heap.size + 1 + 1 + 1 := by simp
  rw [hsz1]
  clear hW0 hsz1
  have hb0 : Below w.heap.size w W0 := hk0.below (fun _ h => h.elim) (Nat.le_refl _)
  obtain ⟨q, hq⟩ : ∃ q, w.heap.size + 1 + 1 = q := ⟨_, rfl⟩
  obtain ⟨X, hX⟩ : ∃ X : Nat → Prop, X = fun k => k = q := ⟨_, rfl⟩
  have hq0 : q < W0.heap.size := by omega
  have hXq : X q := by rw [hX]
  rw [hq] at b3 b4 b5
  have hTells := doors_tells (9 - 1) (by omega) hb0 (bp := q + 1) (bs := q + 1 + 1) (q := q) hq0 (fun k hk => by
    rcases hk with e | ⟨u, hu, e⟩
    · omega
    · rw [blk_cell b3] at hu
      have : (Value.slice none 0 0) = u := by simpa using hu
      subst this
      cases e) hD rfl (by rw [blk_cell b4]; rfl) (by rw [blk_cell b5]; rfl) (X := X) (fun k hk => by rw [hX] at hk; omega) (by rw [hX]; omega) (by rw [hX]; omega) hs hl0 hll hlN hN
  have h00 : PutD w.heap.size (.slice none 0 0) [] W0.heap.size X q W0 ([].filter fT) W0 := ⟨⟨.slice none 0 0, b3, World.ownsRow_nil _ _ _ _, .inl rfl⟩, KpQ.refl _ _ _ _⟩
  have hkX : ∀ V, KpQ W0.heap.size X q W0 V → Kept X w V := fun V hV => (hk0.mono (fun _ _ h => h.elim)).trans ((Kept.refl X W0).kpq hV) (fun _ _ h => h)
  have hbX : ∀ V, KpQ W0.heap.size X q W0 V → Below w.heap.size w V := fun V hV => (hkX V hV).below (fun k hk => by rw [hX] at hk; omega) (Nat.le_refl _)
  gi_wp2_with fail
  try rw [hq]
  refine range_stateP (by omega) (gf := 92) (lb := #[.pointer (some ⟨q + 1, 0, none⟩), .pointer (some ⟨q + 1 + 1, 0, none⟩)]) rfl (enters_of Tryz.func92 (by kernel_rfl) rfl)
    (encs := fun x : Nat × Nat => #[.int .i64 (x.1 : Int), .int .i64 (x.2 : Int)]) (fun _ => rfl) hTells (Below.refl _ _)
    (fun A C ht => ⟨ht.size, fun k o _ ho hc => (ht.block k (blk_lt ho)).trans ho⟩) (fun h k => h.trans k)
    (fun W l' o o' hl' h1 h2 => KpQ.putObj W o' h1 h2 hl' (by omega))
    (fun pre W => PutD w.heap.size (.slice none 0 0) [] W0.heap.size X q W0 (pre.filter fT) W) (fun pre W W' row hh hg hr => PutD.from rfl hq0 trivial _ _ _ _ hh hg hr) (fun xs A C hh ht => hh.take hq0 ht hh.kp.size) (fun xs A C row hh _ _ => hh) h00
    (fun x a' _ => a' = { tmps := #[.pointer (some ⟨p, 0, none⟩), .int .i64 (s : Int), .int .i64 t, .pointer (some ⟨w.heap.size, 0, none⟩), undef, .pointer (some ⟨w.heap.size + 1, 0, none⟩), .slice none 0 0, .pointer (some ⟨q, 0, none⟩), .int .i64 (x.1 : Int), .int .i64 (x.2 : Int), .pointer (some ⟨p, 0, none⟩), .int .i64 (s : Int), .func (.func 92) #[] #[.pointer (some ⟨q + 1, 0, none⟩), .pointer (some ⟨q + 1 + 1, 0, none⟩)], .int .i64 (x.1 : Int), .int .i64 (x.2 : Int), undef, undef, undef, undef, undef, undef, undef, undef, undef, undef, undef, undef, undef, undef, undef, undef, undef, undef], defers := [] })
    (fun x a' _ A C row h _ _ => h) ?assign ?body ?done
  case assign =>
    intro l' pre x W K hI hK
    gi_wp2
    exact hK _ _ (KeepsFrom.refl _ _) (KpQ.refl _ _ _ _) hI rfl
  case body =>
    rintro l' pre x a' W hl' hPut rfl hpre
    have hPut0 := hPut
    obtain ⟨⟨v1, h1, h2, h3⟩, h4⟩ := hPut
    have hx : x ∈ dorF R C ms st s := hpre.subset (by simp)
    have x1 := hof x hx
    have hpm : (pre ++ [x]).filter fT = pre.filter fT ++ (if fT x then [x] else []) := by rw [List.filter_append]; congr 1; simp [List.filter_cons]
    have hDW := hD W (hbX W h4)
    have f1 := hDW.c1
    have f2 := hDW.co _ x1
    have f0 : W.cell? ⟨w.heap.size, 0, none⟩ = some (.pointer (some ⟨p, 0, none⟩)) := by
      rw [blk_cell ((h4.low _ (by omega) (by rw [hX]; omega)).trans b1)]; rfl
    have f3 : W.cell? ⟨w.heap.size + 1, 0, none⟩ = some (.int .i64 t) := by
      rw [blk_cell ((h4.low _ (by omega) (by rw [hX]; omega)).trans b2)]; rfl
    have hWF : W0.heap.size ≤ W.heap.size := h4.size
    obtain ⟨xs, hxs⟩ : ∃ xs, xs = (pre.filter fT).flatMap prV := ⟨_, rfl⟩
    obtain ⟨N, hNn⟩ : ∃ N, N = (pre.filter fT).length := ⟨_, rfl⟩
    have hNb : N ≤ 5000 := by
      have e1 := hpre.length_le
      rw [List.length_append] at e1
      have e3 := List.length_filter_le fT pre
      omega
    have h2' : W.ownsRow w.heap.size 22 2 v1 N xs := by rw [hNn, hxs]; exact h2
    have hqW : q < W.heap.size := blk_lt h1
    have P4 : KpQ W0.heap.size X q W W.drew := KpQ.of_kept ((Kept.refl (fun _ => False) W).drew) hWF hqW (fun _ => id)
    have hd : fT x = (st.of.getD x.2 0 == t) := by rw [hfT]
    have HSd : Hid (W.drew.cell? ⟨w.heap.size, 0, none⟩ = some (.pointer (some ⟨p, 0, none⟩)) ∧ W.drew.cell? ⟨w.heap.size + 1, 0, none⟩ = some (.int .i64 t) ∧ W.drew.cell? ⟨p, 1, none⟩ = some (.slice (some ⟨bo, 0, none⟩) ms.length ms.length) ∧ W.drew.cell? ⟨bo, x.2, none⟩ = some (.int .i64 (st.of.getD x.2 0))) := ⟨f0, f3, f1, f2⟩
    have i1 : ((x.2 : Nat) : Int) < (ms.length : Int) := by omega
    have i2 : (0 : Int) ≤ ((x.2 : Nat) : Int) := by omega
    cases hcd : (st.of.getD x.2 0 == t) with
    | false =>
      rw [hcd] at hd
      rw [hd, if_neg (by simp), List.append_nil] at hpm
      have HZ : Hid (roundEnd W0.heap.size (KpQ W0.heap.size X q) (fun pre W => PutD w.heap.size (.slice none 0 0) [] W0.heap.size X q W0 (pre.filter fT) W) (pre ++ [x]) W .normal { tmps := #[], defers := [] } W.drew) := by
        refine ⟨⟨Nat.le_refl _, fun k o _ ho _ => ho⟩, P4, ?_⟩
        show PutD _ _ _ _ _ _ _ ((pre ++ [x]).filter fT) _
        rw [hpm]
        exact hPut0.take hq0 (Below.refl _ _).drew hWF
      clear hPut0 hTells h00 hkX hbX h1 h2 h3 h4 h2' hDW f0 f1 f2 f3 hpm hxs hNn hqW hWF P4 hl' hx hpre hD hof b1 b2 b3 b4 b5 hk0 hb0 hD0 x1 hd hdl hfT
      generalize st.of.getD x.2 0 = ob at *
      generalize x.2 = b at *
      generalize x.1 = a1 at *
      generalize ms.length = M at *
      gi_wp2_with fail
      refine wpIn_held_rnd (S := fun W' => W'.cell? ⟨w.heap.size, 0, none⟩ = some (.pointer (some ⟨p, 0, none⟩)) ∧ W'.cell? ⟨w.heap.size + 1, 0, none⟩ = some (.int .i64 t) ∧ W'.cell? ⟨p, 1, none⟩ = some (.slice (some ⟨bo, 0, none⟩) M M) ∧ W'.cell? ⟨bo, b, none⟩ = some (.int .i64 ob)) (by kernel_rfl) (by kernel_rfl) HSd.out (fun hHeld => ?_)
      simp only [List.size_toArray, List.length_cons, List.length_nil, Nat.reduceAdd, Array.replicate_succ, Array.replicate_zero, List.push_toArray, List.nil_append, List.cons_append, List.append_toArray]
      refine take_op (i := 0) (v := ?_) rfl (by kernel_rfl) (by kernel_rfl) (by kernel_rfl) (fun _ _ _ h => h) (Or.inl ⟨by rfl, ?_⟩) (by assumption) ?_
      rotate_left
      · (intro w' hSw; (try dsimp only at hSw); go_simp; (try with_reducible rfl))
      (try simp only [Act.put, List.setIfInBounds_toArray, List.set_cons_zero, List.set_cons_succ])
      refine take_op (i := 1) (v := ?_) rfl (by kernel_rfl) (by kernel_rfl) (by kernel_rfl) (fun _ _ _ h => h) (Or.inl ⟨by rfl, ?_⟩) (by assumption) ?_
      rotate_left
      · (intro w' hSw; (try dsimp only at hSw); go_simp; (try with_reducible rfl))
      (try simp only [Act.put, List.setIfInBounds_toArray, List.set_cons_zero, List.set_cons_succ])
      refine take_op (i := 2) (v := ?_) rfl (by kernel_rfl) (by kernel_rfl) (by kernel_rfl) (fun _ _ _ h => h) (Or.inl ⟨by rfl, ?_⟩) (by assumption) ?_
      rotate_left
      · (intro w' hSw; (try dsimp only at hSw); go_simp; (try with_reducible rfl))
      (try simp only [Act.put, List.setIfInBounds_toArray, List.set_cons_zero, List.set_cons_succ])
      refine take_op (i := 3) (v := ?_) rfl (by kernel_rfl) (by kernel_rfl) (by kernel_rfl) (fun _ _ _ h => h) (Or.inl ⟨by rfl, ?_⟩) (by assumption) ?_
      rotate_left
      · (intro w' hSw; (try dsimp only at hSw); go_simp; (try with_reducible rfl))
      (try simp only [Act.put, List.setIfInBounds_toArray, List.set_cons_zero, List.set_cons_succ])
      refine take_op (i := 4) (v := ?_) rfl (by kernel_rfl) (by kernel_rfl) (by kernel_rfl) (fun _ _ _ h => h) (Or.inl ⟨by rfl, ?_⟩) (by assumption) ?_
      rotate_left
      · (intro w' hSw; (try dsimp only at hSw); go_simp; (try with_reducible rfl))
      (try simp only [Act.put, List.setIfInBounds_toArray, List.set_cons_zero, List.set_cons_succ])
      refine take_op (i := 5) (v := ?_) rfl (by kernel_rfl) (by kernel_rfl) (by kernel_rfl) (fun _ _ _ h => h) (Or.inl ⟨by rfl, ?_⟩) (by assumption) ?_
      rotate_left
      · (intro w' hSw; (try dsimp only at hSw); go_simp; (try with_reducible rfl))
      (try simp only [Act.put, List.setIfInBounds_toArray, List.set_cons_zero, List.set_cons_succ])
      refine take_op (i := 6) (v := ?_) rfl (by kernel_rfl) (by kernel_rfl) (by kernel_rfl) (fun _ _ _ h => h) (Or.inl ⟨by rfl, ?_⟩) (by assumption) ?_
      rotate_left
      · (intro w' hSw; (try dsimp only at hSw); go_simp; (try with_reducible rfl))
      (try simp only [Act.put, List.setIfInBounds_toArray, List.set_cons_zero, List.set_cons_succ])
      refine take_op (i := 7) (v := ?_) rfl (by kernel_rfl) (by kernel_rfl) (by kernel_rfl) (fun _ _ _ h => h) (Or.inl ⟨by rfl, ?_⟩) (by assumption) ?_
      rotate_left
      · (intro w' hSw; (try dsimp only at hSw); go_simp; (try with_reducible rfl))
      (try simp only [Act.put, List.setIfInBounds_toArray, List.set_cons_zero, List.set_cons_succ])
      refine take_op (i := 8) (v := ?_) rfl (by kernel_rfl) (by kernel_rfl) (by kernel_rfl) (fun _ _ _ h => h) (Or.inl ⟨by rfl, ?_⟩) (by assumption) ?_
      rotate_left
      · (intro w' hSw; (try dsimp only at hSw); go_simp; (try with_reducible rfl))
      (try simp only [Act.put, List.setIfInBounds_toArray, List.set_cons_zero, List.set_cons_succ])
      refine wpAnyH_done (by kernel_rfl) ?_ _
      clear hHeld
      simp only [Calm]
      gi_wp2
      exact HZ.out
    | true =>
      rw [hcd] at hd
      rw [hd, if_pos rfl] at hpm
      have HV : Hid (W.drew.ownsRow w.heap.size 22 2 v1 N xs) := ((Kept.refl (fun _ => False) W).drew).row h2' (fun _ _ => id)
      have HR : Hid (∀ (W2 : World) v', (W.drew.alloc (.cells #[.int .i64 (x.1 : Int), .int .i64 (x.2 : Int)] 22)).grownBy W2 v1.ownBlock → W2.ownsRow w.heap.size 22 2 v' (N + 1) (xs ++ [.int .i64 (x.1 : Int), .int .i64 (x.2 : Int)]) → (v'.ownBlock = v1.ownBlock ∨ v'.ownBlock = some (W.drew.alloc (.cells #[.int .i64 (x.1 : Int), .int .i64 (x.2 : Int)] 22)).heap.size) →
          (W2.cell? ⟨q, 0, none⟩ = some v1 ∧ W2.frozen? ⟨q, 0, none⟩ = false) ∧
            roundEnd W0.heap.size (KpQ W0.heap.size X q) (fun pre W => PutD w.heap.size (.slice none 0 0) [] W0.heap.size X q W0 (pre.filter fT) W) (pre ++ [x]) W .normal { tmps := #[], defers := [] } (W2.setCell ⟨q, 0, none⟩ v')) := by
        intro W2 v' hg ho' hat
        rw [hNn, hxs] at ho'
        have hr := putd_round (F := W0.heap.size) (q := q) (v0 := .slice none 0 0) (l := []) (pre := pre.filter fT) (x := x) (W := W.drew) (W0 := W0) (X := X) (a := { tmps := #[], defers := [] }) rfl hq0 hXq (fun k e => by cases e) h1 (by rw [hNn, hxs] at h2'; exact ((Kept.refl (fun _ => False) W).drew).row h2' (fun _ _ => id)) h3 (h4.trans P4) hg ho' hat
        obtain ⟨hr1, hr2, hr3, hr4⟩ := hr
        refine ⟨hr1, ⟨hr2.size, fun k o hk ho hc => hr2.same k o hk ho hc⟩, P4.trans hr3, ?_⟩
        show PutD _ _ _ _ _ _ _ ((pre ++ [x]).filter fT) _
        rw [hpm]
        exact hr4
      have HNe := Lib.hid (World.news_of_block (heap_alloc_new W.drew (.cells #[.int .i64 (x.1 : Int), .int .i64 (x.2 : Int)] 22)))
      have c5 : W.drew.cell? ⟨q, 0, none⟩ = some v1 := by
        have : W.cell? ⟨q, 0, none⟩ = some v1 := by rw [blk_cell h1]; rfl
        exact this
      have c6 : W.cell? ⟨q, 0, none⟩ = some v1 := c5
      have HSZ : Hid (w.heap.size ≤ (W.drew.alloc (.cells #[.int .i64 (x.1 : Int), .int .i64 (x.2 : Int)] 22)).heap.size) := by show _ ≤ _; rw [World.size_alloc]; have : W.drew.heap.size = W.heap.size := rfl; omega
      clear hPut0 hTells h00 hkX hbX h1 h2 h3 h4 h2' hDW f0 f1 f2 f3 hpm hxs hNn hqW hWF P4 hl' hx hpre hD hof b1 b2 b3 b4 b5 hk0 hb0 hD0 x1 hd hdl hfT
      generalize st.of.getD x.2 0 = ob at *
      generalize x.2 = b at *
      generalize x.1 = a1 at *
      generalize ms.length = M at *
      gi_wp2_with fail
      refine wpIn_held_rnd (S := fun W' => W'.cell? ⟨w.heap.size, 0, none⟩ = some (.pointer (some ⟨p, 0, none⟩)) ∧ W'.cell? ⟨w.heap.size + 1, 0, none⟩ = some (.int .i64 t) ∧ W'.cell? ⟨p, 1, none⟩ = some (.slice (some ⟨bo, 0, none⟩) M M) ∧ W'.cell? ⟨bo, b, none⟩ = some (.int .i64 ob)) (by kernel_rfl) (by kernel_rfl) HSd.out (fun hHeld => ?_)
      simp only [List.size_toArray, List.length_cons, List.length_nil, Nat.reduceAdd, Array.replicate_succ, Array.replicate_zero, List.push_toArray, List.nil_append, List.cons_append, List.append_toArray]
      refine take_op (i := 0) (v := ?_) rfl (by kernel_rfl) (by kernel_rfl) (by kernel_rfl) (fun _ _ _ h => h) (Or.inl ⟨by rfl, ?_⟩) (by assumption) ?_
      rotate_left
      · (intro w' hSw; (try dsimp only at hSw); go_simp; (try with_reducible rfl))
      (try simp only [Act.put, List.setIfInBounds_toArray, List.set_cons_zero, List.set_cons_succ])
      refine take_op (i := 1) (v := ?_) rfl (by kernel_rfl) (by kernel_rfl) (by kernel_rfl) (fun _ _ _ h => h) (Or.inl ⟨by rfl, ?_⟩) (by assumption) ?_
      rotate_left
      · (intro w' hSw; (try dsimp only at hSw); go_simp; (try with_reducible rfl))
      (try simp only [Act.put, List.setIfInBounds_toArray, List.set_cons_zero, List.set_cons_succ])
      refine take_op (i := 2) (v := ?_) rfl (by kernel_rfl) (by kernel_rfl) (by kernel_rfl) (fun _ _ _ h => h) (Or.inl ⟨by rfl, ?_⟩) (by assumption) ?_
      rotate_left
      · (intro w' hSw; (try dsimp only at hSw); go_simp; (try with_reducible rfl))
      (try simp only [Act.put, List.setIfInBounds_toArray, List.set_cons_zero, List.set_cons_succ])
      refine take_op (i := 3) (v := ?_) rfl (by kernel_rfl) (by kernel_rfl) (by kernel_rfl) (fun _ _ _ h => h) (Or.inl ⟨by rfl, ?_⟩) (by assumption) ?_
      rotate_left
      · (intro w' hSw; (try dsimp only at hSw); go_simp; (try with_reducible rfl))
      (try simp only [Act.put, List.setIfInBounds_toArray, List.set_cons_zero, List.set_cons_succ])
      refine take_op (i := 4) (v := ?_) rfl (by kernel_rfl) (by kernel_rfl) (by kernel_rfl) (fun _ _ _ h => h) (Or.inl ⟨by rfl, ?_⟩) (by assumption) ?_
      rotate_left
      · (intro w' hSw; (try dsimp only at hSw); go_simp; (try with_reducible rfl))
      (try simp only [Act.put, List.setIfInBounds_toArray, List.set_cons_zero, List.set_cons_succ])
      refine take_op (i := 5) (v := ?_) rfl (by kernel_rfl) (by kernel_rfl) (by kernel_rfl) (fun _ _ _ h => h) (Or.inl ⟨by rfl, ?_⟩) (by assumption) ?_
      rotate_left
      · (intro w' hSw; (try dsimp only at hSw); go_simp; (try with_reducible rfl))
      (try simp only [Act.put, List.setIfInBounds_toArray, List.set_cons_zero, List.set_cons_succ])
      refine take_op (i := 6) (v := ?_) rfl (by kernel_rfl) (by kernel_rfl) (by kernel_rfl) (fun _ _ _ h => h) (Or.inl ⟨by rfl, ?_⟩) (by assumption) ?_
      rotate_left
      · (intro w' hSw; (try dsimp only at hSw); go_simp; (try with_reducible rfl))
      (try simp only [Act.put, List.setIfInBounds_toArray, List.set_cons_zero, List.set_cons_succ])
      refine take_op (i := 7) (v := ?_) rfl (by kernel_rfl) (by kernel_rfl) (by kernel_rfl) (fun _ _ _ h => h) (Or.inl ⟨by rfl, ?_⟩) (by assumption) ?_
      rotate_left
      · (intro w' hSw; (try dsimp only at hSw); go_simp; (try with_reducible rfl))
      (try simp only [Act.put, List.setIfInBounds_toArray, List.set_cons_zero, List.set_cons_succ])
      refine take_op (i := 8) (v := ?_) rfl (by kernel_rfl) (by kernel_rfl) (by kernel_rfl) (fun _ _ _ h => h) (Or.inl ⟨by rfl, ?_⟩) (by assumption) ?_
      rotate_left
      · (intro w' hSw; (try dsimp only at hSw); go_simp; (try with_reducible rfl))
      (try simp only [Act.put, List.setIfInBounds_toArray, List.set_cons_zero, List.set_cons_succ])
      refine wpAnyH_done (by kernel_rfl) ?_ _
      clear hHeld
      simp only [Calm]
      gi_wp2_with (gi_at_builtin; refine wpListIn_append_own_at _ rfl _ _ 43 rfl w.heap.size 22 i0 (.agg #[.int .i64 0, .int .i64 0]) 2 16 Tryz.underlying43 hi hz0 hz1 hz2 rfl (by decide) _ N _ rfl (HV.out.alloc _) ⟨W.drew.heap.size, 0, none⟩ 1 1 [.int .i64 (a1 : Int), .int .i64 (b : Int)] rfl rfl HNe.out (by intro u hu; simp at hu; rcases hu with rfl | rfl <;> rfl) (by unfold maxLen; omega) (by omega) HSZ.out ?_; intro v' W2 hown' hgrow _ hat; obtain ⟨g', cap', rfl⟩ := ownsRow_succ hown'; obtain ⟨⟨hq1, hq2⟩, hq3⟩ := HR.out _ _ hgrow hown' hat; have HZ := Lib.hid hq3; clear hown' hgrow hq3 hat)
      exact HZ.out
  case done =>
    rintro D xs W hD' rfl hI hK
    obtain ⟨⟨v', h1, h2, _⟩, h3⟩ := hI
    rw [List.nil_append] at h2
    obtain ⟨NL, hNL⟩ : ∃ NL, NL = (dorK R C ms st s (st.cells.getD s []) (st.cells.getD s []).length).filter fT := ⟨_, rfl⟩
    have hNL2 : (dorF R C ms st s).filter fT = NL := by rw [hNL]; rfl
    have hlen : NL.length ≤ 5000 := by
      have := List.length_filter_le fT (dorK R C ms st s (st.cells.getD s []) (st.cells.getD s []).length)
      rw [hNL]; omega
    rw [← hNL] at h2
    have HNL2 := Lib.hid hNL2
    have HL := Lib.hid hlen
    have HRow := Lib.hid h2
    have cq : W.cell? ⟨q, 0, none⟩ = some v' := by rw [blk_cell h1]; rfl
    have hvq : v'.ownBlock ≠ some q := fun e => by
      rcases h2.2 with ⟨rfl, _⟩ | ⟨g', cap', cur, rfl, _, hgg, _⟩
      · cases e
      · have : g' = q := by simpa [Value.ownBlock] using e
        subst this
        rw [h1] at hgg
        injection hgg with hgg
        injection hgg with _ hh _
        exact absurd hh (by decide)
    have hvD : v'.ownBlock ≠ some D := fun e => by
      rcases h2.2 with ⟨rfl, _⟩ | ⟨g', cap', cur, rfl, _, hgg, _⟩
      · cases e
      · have : g' = D := by simpa [Value.ownBlock] using e
        subst this
        rw [hK] at hgg
        cases hgg
    have hbW := hbX W h3
    have hvw : ∀ k, v'.ownBlock = some k → w.heap.size ≤ k := fun k e => (h2.lt k e).1
    have HF : Hid (∀ w4 : World, Kept (fun k => v'.ownBlock = some k) W w4 → w4.ownsRow w.heap.size 22 2 v' (srtD NL).length ((srtD NL).flatMap prV) → w4.cell? ⟨q, 0, none⟩ = some v' ∧ w4.heap[D]? = some (.deferred (some [])) ∧ DoP w (srtD NL) (.returned v') (w4.putObj D (.deferred none))) := by
      intro w4 k4 ho4
      refine ⟨k4.cell cq hvq, (k4.block D (blk_lt hK) hvD).trans hK, v', rfl, ?_, ?_⟩
      · refine ho4.kept (grownBy_putObj' w4 D (.deferred none)) ?_
        exact .inr (fun e => hvD e)
      · have hb5 : Below w.heap.size w w4 := hbW.trans (k4.below (fun k hk => hvw k hk) hbW.size)
        exact hb5.trans ⟨rfl, rfl, rfl, by simp [World.putObj], fun k hk => World.putObj_heap_other (by omega)⟩
    clear hTells h00 hkX hbX h1 h2 h3 hD hof b1 b2 b3 b4 b5 hk0 hb0 hD0 hvq hvD hbW hvw hlen hNL hNL2 hdl hfT
    gi_wp2_with fail
    refine ⟨trivial, (callsIn_wide.2 (HSort.out W v' NL HRow.out HL.out)).mono ?_⟩
    rintro e w4 ⟨rfl, ho4, hk4⟩
    obtain ⟨c4, hD5, hfin⟩ := HF.out w4 hk4 ho4
    have HFin := Lib.hid hfin
    clear hfin hk4 ho4 cq
    gi_wp2
    refine ⟨by simp, .inl ⟨_, _, rfl, run_takeDeferred hD5, ?_⟩⟩
    exact ⟨v', results_tmp (fn := Tryz.f26) (t := 6) rfl _ _ _, by rw [HNL2.out]; exact HFin.out⟩
end Go.Proofs.YtekhlaodlagbdaaGreatDoor

/-
  Next and Doors of a segment that there is not.
-/
namespace Go.Proofs.YtekhlaodlagbdaaGreatDoor
set_option maxRecDepth 100000
set_option linter.unusedSimpArgs false
open Go Go.RowKit
attribute [local go_sem] Oper.semAt_some

def doorW2 (w : World) (A : Option Addr) (s : Int) : World := (w.alloc (.cells #[.pointer A] 31)).alloc (.cells #[.int .i64 s] 3)
theorem doors_an2 (w : World) (A : Option Addr) (s : Int) :
    Calls Tryz.prog 63 #[.pointer A, .int .i64 s] w fun e w' => e = .returned (.func (.func 92) #[] #[.pointer (some ⟨w.heap.size, 0, none⟩), .pointer (some ⟨w.heap.size + 1, 0, none⟩)]) ∧ w' = doorW2 w A s := by
  go_enter Tryz.func63, Tryz.ntmps63
  go_wp2
  go_ret
  exact ⟨rfl, rfl⟩
theorem doors_no (n : Nat) (hn : 1 ≤ n) {A : Option Addr} {s : Int} {w0 : World} {X : Nat → Prop} {q bp bs : Nat} (h1 : w0.cell? ⟨bp, 0, none⟩ = some (.pointer A)) (h2 : w0.cell? ⟨bs, 0, none⟩ = some (.int .i64 s))
    (hHas : ∀ W, Below w0.heap.size w0 W → Calls Tryz.prog 60 #[.pointer A, .int .i64 s] W fun e w' => e = .returned (.bool false) ∧ W = w') :
    TellsP n Tryz.prog 92 #[.pointer (some ⟨bp, 0, none⟩), .pointer (some ⟨bs, 0, none⟩)] (fun x : Nat × Nat => #[.int .i64 (x.1 : Int), .int .i64 (x.2 : Int)]) (fun A B => Below A.heap.size A B) (KpQ w0.heap.size X q) (fun xs _ => xs = []) (fun pre x => pre ++ [x] <+: []) w0 := by
  intro y J W hW hJ hY h0
  have kW : Kept (fun _ => False) w0 W := Kept.of_below hW (Nat.le_refl _)
  have f1 := kW.cell h1 id
  have f2 := kW.cell h2 id
  have HHW := Lib.hid (hHas W hW)
  obtain ⟨P, hP⟩ : ∃ P : Ending → World → Prop, P = fun e' W' => (∃ v, e' = .returned v) ∧ ∃ xs, xs = ([] : List (Nat × Nat)) ∧ J xs W' := ⟨_, rfl⟩
  have HF : Hid (P (.returned (.tuple #[])) W) := by rw [hP]; exact ⟨⟨_, rfl⟩, _, rfl, h0⟩
  rw [← hP]
  clear hP hY h0 hJ hW h1 h2 hHas kW
  refine callsIn_of_wp Tryz.func92 rfl trivial ?_ rfl
  simp only [Tryz.ntmps92, List.size_toArray, List.length_cons, List.length_nil, Nat.reduceAdd, Nat.reduceSub, Array.replicate_succ, Array.replicate_zero, List.push_toArray, List.append_toArray, List.nil_append, List.cons_append]
  gi_wp2_with fail
  refine ⟨trivial, (callsIn_wide.2 HHW.out).mono ?_⟩
  rintro e W' ⟨rfl, rfl⟩
  gi_wp2
  exact bodyPost_ret (results_none rfl _ _ _) rfl HF.out

set_option maxHeartbeats 4000000 in
/-- Next of a segment that there is not. -/
theorem pnext_no {w : World} {A : Option Addr} {s : Int} (hHas : ∀ W, Below w.heap.size w W → Calls Tryz.prog 60 #[.pointer A, .int .i64 s] W fun e w' => e = .returned (.bool false) ∧ W = w') :
    Calls Tryz.prog 25 #[.pointer A, .int .i64 s] w (NxP w []) := by
  obtain ⟨gF, _⟩ : ∃ gF : Nat × Nat → Nat, gF = fun d => d.1 := ⟨_, rfl⟩
  obtain ⟨m, hm1, hm2⟩ : ∃ m : List Nat, Lib.compact (intsQ (srtQ [])) = intsQ m ∧ m = [] := by
    have hs : (srtQ []).Pairwise (· ≤ ·) := by simp [srtQ]
    obtain ⟨m, h1, _, h3⟩ := compact_rise hs
    refine ⟨m, h1, ?_⟩
    cases m with
    | nil => rfl
    | cons x r => have := (h3 x).1 (by simp); simp [srtQ] at this
  have hml : m.length ≤ (srtQ []).length := by rw [hm2]; simp
  rw [← hm2]
  clear hm2
  refine (callsIn_wide (n := 9)).1 ?_
  refine callsIn_of_wp_marks Tryz.func25 rfl trivial ?_ rfl
  simp only [Tryz.ntmps25, List.size_toArray, List.length_cons, List.length_nil, Nat.reduceAdd, Nat.reduceSub, Array.replicate_succ, Array.replicate_zero, List.push_toArray, List.append_toArray, List.nil_append, List.cons_append]
  gi_wp2_with fail
  refine ⟨trivial, (callsIn_wide.2 (doors_an2 _ _ _)).mono ?_⟩
  rintro e W0 ⟨rfl, hW0⟩
  have hz : W0.heap.size = w.heap.size + 4 := by rw [hW0]; simp [doorW2]
  have hk0 : Kept (fun _ => False) w W0 := by rw [hW0]; exact ((((Kept.refl _ w).alloc _).alloc _).alloc _).alloc _
  obtain ⟨b1, b2, b3, b4⟩ := heap4 w (.cells #[.pointer A] 31) (.cells #[.slice none 0 0] 36) (.cells #[.pointer A] 31) (.cells #[.int .i64 s] 3)
  rw [show (((w.alloc (.cells #[.pointer A] 31)).alloc (.cells #[.slice none 0 0] 36)).alloc (.cells #[.pointer A] 31)).alloc (.cells #[.int .i64 s] 3) = W0 from hW0.symm] at b1 b2 b3 b4
  have hsz1 : ((w.alloc (.cells #[.pointer A] 31)).alloc (.cells #[.slice none 0 0] 36)).heap.size = w.heap.size + 1 + 1 := by simp
  rw [hsz1]
  clear hW0 hsz1
  have hb0 : Below w.heap.size w W0 := hk0.below (fun _ h => h.elim) (Nat.le_refl _)
  obtain ⟨q, hq⟩ : ∃ q, w.heap.size + 1 = q := ⟨_, rfl⟩
  obtain ⟨X, hX⟩ : ∃ X : Nat → Prop, X = fun k => k = q := ⟨_, rfl⟩
  have hq0 : q < W0.heap.size := by omega
  have hXq : X q := by rw [hX]
  rw [hq] at b2 b3 b4
  have hTells := doors_no (9 - 1) (by omega) (q := q) (X := X) (w0 := W0) (bp := q + 1) (bs := q + 1 + 1) (by rw [blk_cell b3]; rfl) (by rw [blk_cell b4]; rfl) (fun W hW => hHas W (hb0.trans (hW.mono hb0.size)))
  have h00 : PutI w.heap.size (.slice none 0 0) [] W0.heap.size X q W0 ([].map gF) W0 := ⟨⟨.slice none 0 0, b2, World.ownsRow_nil _ _ _ _, .inl rfl⟩, KpQ.refl _ _ _ _⟩
  have hkX : ∀ V, KpQ W0.heap.size X q W0 V → Kept X w V := fun V hV => (hk0.mono (fun _ _ h => h.elim)).trans ((Kept.refl X W0).kpq hV) (fun _ _ h => h)
  have hbX : ∀ V, KpQ W0.heap.size X q W0 V → Below w.heap.size w V := fun V hV => (hkX V hV).below (fun k hk => by rw [hX] at hk; omega) (Nat.le_refl _)
  gi_wp2_with fail
  try rw [hq]
  refine range_stateP (by omega) (gf := 92) (lb := #[.pointer (some ⟨q + 1, 0, none⟩), .pointer (some ⟨q + 1 + 1, 0, none⟩)]) rfl (enters_of Tryz.func92 (by kernel_rfl) rfl)
    (encs := fun x : Nat × Nat => #[.int .i64 (x.1 : Int), .int .i64 (x.2 : Int)]) (fun _ => rfl) hTells (Below.refl _ _)
    (fun A C ht => ⟨ht.size, fun k o _ ho hc => (ht.block k (blk_lt ho)).trans ho⟩) (fun h k => h.trans k)
    (fun W l' o o' hl' h1 h2 => KpQ.putObj W o' h1 h2 hl' (by omega))
    (fun pre W => PutI w.heap.size (.slice none 0 0) [] W0.heap.size X q W0 (pre.map gF) W) (fun pre W W' row hh hg hr => PutI.from rfl hq0 trivial _ _ _ _ hh hg hr) (fun xs A C hh ht => hh.take hq0 ht hh.kp.size) (fun xs A C row hh _ _ => hh) h00
    (fun x a' _ => a' = { tmps := #[.pointer A, .int .i64 s, .pointer (some ⟨w.heap.size, 0, none⟩), undef, .slice none 0 0, .pointer (some ⟨q, 0, none⟩), undef, .int .i64 (x.2 : Int), .pointer A, .int .i64 s, .func (.func 92) #[] #[.pointer (some ⟨q + 1, 0, none⟩), .pointer (some ⟨q + 1 + 1, 0, none⟩)], .int .i64 (x.1 : Int), .int .i64 (x.2 : Int), undef, undef, undef, undef, undef, undef, undef, undef, undef, undef, undef, undef, undef, undef], defers := [] })
    (fun x a' _ A C row h _ _ => h) ?assign ?body ?done
  case assign =>
    intro l' pre x W K hI hK
    gi_wp2
    exact hK _ _ (KeepsFrom.refl _ _) (KpQ.refl _ _ _ _) hI rfl
  case body =>
    rintro l' pre x a' W hl' _ _ hpre
    have := hpre.length_le
    simp at this
  case done =>
    rintro D xs W hD rfl hI hK
    obtain ⟨⟨v', h1, h2, _⟩, h3⟩ := hI
    have h2 : W.ownsRow w.heap.size 3 1 v' ([] : List Nat).length (([] : List Nat).map natV) := h2
    obtain ⟨NL, hNL⟩ : ∃ NL : List Nat, NL = [] := ⟨_, rfl⟩
    rw [← hNL] at h2 hm1 hml
    have hlen : NL.length ≤ 100000 := by rw [hNL]; simp
    have HM := Lib.hid hm1
    have HML := Lib.hid hml
    have HL := Lib.hid hlen
    have HRow := Lib.hid h2
    have hqW := blk_lt h1
    have cq : W.cell? ⟨q, 0, none⟩ = some v' := by rw [blk_cell h1]; rfl
    have hvq : v'.ownBlock ≠ some q := fun e => by
      rcases h2.2 with ⟨rfl, _⟩ | ⟨g', cap', cur, rfl, _, hgg, _⟩
      · cases e
      · have : g' = q := by simpa [Value.ownBlock] using e
        subst this
        rw [h1] at hgg
        injection hgg with hgg
        injection hgg with _ hh _
        exact absurd hh (by decide)
    have hvD : v'.ownBlock ≠ some D := fun e => by
      rcases h2.2 with ⟨rfl, _⟩ | ⟨g', cap', cur, rfl, _, hgg, _⟩
      · cases e
      · have : g' = D := by simpa [Value.ownBlock] using e
        subst this
        rw [hK] at hgg
        cases hgg
    have hbW := hbX W h3
    have hvw : ∀ k, v'.ownBlock = some k → w.heap.size ≤ k := fun k e => (h2.lt k e).1
    have HF : Hid (∀ w4 w5 : World, Kept (fun k => v'.ownBlock = some k) W w4 → Kept (fun k => v'.ownBlock = some k) w4 w5 → w4.cell? ⟨q, 0, none⟩ = some v' ∧ w5.heap[D]? = some (.deferred (some [])) ∧ ∀ v5 : Value, w5.ownsRow w.heap.size 3 1 v5 m.length (m.map natV) → (v5.ownBlock = v'.ownBlock) → NxP w m (.returned v5) (w5.putObj D (.deferred none))) := by
      intro w4 w5 k4 k5
      have k45 := k4.trans k5 (fun _ _ h => h)
      refine ⟨k4.cell cq hvq, (k45.block D (blk_lt hK) hvD).trans hK, fun v5 ho5 hv5 => ⟨v5, rfl, ?_, ?_⟩⟩
      · refine ho5.kept (grownBy_putObj' w5 D (.deferred none)) ?_
        exact .inr (fun e => hvD (by rw [← hv5]; exact e))
      · have hb5 : Below w.heap.size w w5 := hbW.trans (k45.below (fun k hk => hvw k hk) hbW.size)
        exact hb5.trans ⟨rfl, rfl, rfl, by simp [World.putObj], fun k hk => World.putObj_heap_other (by omega)⟩
    clear hTells h00 hkX hbX h1 h2 h3 hHas b1 b2 b3 b4 hk0 hb0 hm1 hml hvq hvD hbW hvw hlen hqW hNL
    gi_wp2_with fail
    refine ⟨trivial, (callsIn_wide.2 (sortQ_any HRow.out HL.out)).mono ?_⟩
    rintro e w4 ⟨rfl, ho4, hk4⟩
    have HO4 := Lib.hid ho4
    have HK4 := Lib.hid hk4
    have c4 := (HF.out w4 w4 hk4 (Kept.refl _ _)).1
    have HL4 : Hid ((srtQ NL).length ≤ 100000) := by show _ ≤ _; rw [srtQ_length]; exact HL.out
    clear ho4 hk4 cq
    gi_wp2_with fail
    refine ⟨trivial, (callsIn_wide.2 (compactQ_any HO4.out HL4.out HM.out HML.out)).mono ?_⟩
    rintro e w5 ⟨v5, rfl, hv5, ho5, hk5⟩
    obtain ⟨_, hD5, hfin⟩ := HF.out w4 w5 HK4.out hk5
    have HFin := Lib.hid (hfin v5 ho5 hv5)
    clear c4 hk5 ho5 hv5 hfin
    gi_wp2
    refine ⟨by simp, .inl ⟨_, _, rfl, run_takeDeferred hD5, ?_⟩⟩
    exact ⟨v5, results_tmp (fn := Tryz.f25) (t := 4) rfl _ _ _, HFin.out⟩
set_option maxHeartbeats 4000000 in
/-- Doors of a segment that there is not. -/
theorem pdoors_no {w : World} {A : Option Addr} {s : Int} (t : Int) (hHas : ∀ W, Below w.heap.size w W → Calls Tryz.prog 60 #[.pointer A, .int .i64 s] W fun e w' => e = .returned (.bool false) ∧ W = w') (hSort : SortsD w.heap.size) :
    Calls Tryz.prog 26 #[.pointer A, .int .i64 s, .int .i64 t] w (DoP w []) := by
  have HSort := Lib.hid hSort
  clear hSort
  obtain ⟨fT, _⟩ : ∃ fT : Nat × Nat → Bool, fT = fun _ => true := ⟨_, rfl⟩
  refine (callsIn_wide (n := 9)).1 ?_
  refine callsIn_of_wp_marks Tryz.func26 rfl trivial ?_ rfl
  simp only [Tryz.ntmps26, List.size_toArray, List.length_cons, List.length_nil, Nat.reduceAdd, Nat.reduceSub, Array.replicate_succ, Array.replicate_zero, List.push_toArray, List.append_toArray, List.nil_append, List.cons_append]
  gi_wp2_with fail
  refine ⟨trivial, (callsIn_wide.2 (doors_an2 _ _ _)).mono ?_⟩
  rintro e W0 ⟨rfl, hW0⟩
  have hz : W0.heap.size = w.heap.size + 5 := by rw [hW0]; simp [doorW2]
  have hk0 : Kept (fun _ => False) w W0 := by rw [hW0]; exact (((((Kept.refl _ w).alloc _).alloc _).alloc _).alloc _).alloc _
  obtain ⟨b1, b2, b3, b4, b5⟩ := heap5 w (.cells #[.pointer A] 31) (.cells #[.int .i64 t] 3) (.cells #[.slice none 0 0] 43) (.cells #[.pointer A] 31) (.cells #[.int .i64 s] 3)
  rw [show ((((w.alloc (.cells #[.pointer A] 31)).alloc (.cells #[.int .i64 t] 3)).alloc (.cells #[.slice none 0 0] 43)).alloc (.cells #[.pointer A] 31)).alloc (.cells #[.int .i64 s] 3) = W0 from hW0.symm] at b1 b2 b3 b4 b5
  have hsz1 : (((w.alloc (.cells #[.pointer A] 31)).alloc (.cells #[.int .i64 t] 3)).alloc (.cells #[.slice none 0 0] 43)).heap.size = w.heap.size + 1 + 1 + 1 := by simp
  rw [hsz1]
  clear hW0 hsz1
  have hb0 : Below w.heap.size w W0 := hk0.below (fun _ h => h.elim) (Nat.le_refl _)
  obtain ⟨q, hq⟩ : ∃ q, w.heap.size + 1 + 1 = q := ⟨_, rfl⟩
  obtain ⟨X, hX⟩ : ∃ X : Nat → Prop, X = fun k => k = q := ⟨_, rfl⟩
  have hq0 : q < W0.heap.size := by omega
  have hXq : X q := by rw [hX]
  rw [hq] at b3 b4 b5
  have hTells := doors_no (9 - 1) (by omega) (q := q) (X := X) (w0 := W0) (bp := q + 1) (bs := q + 1 + 1) (by rw [blk_cell b4]; rfl) (by rw [blk_cell b5]; rfl) (fun W hW => hHas W (hb0.trans (hW.mono hb0.size)))
  have h00 : PutD w.heap.size (.slice none 0 0) [] W0.heap.size X q W0 ([].filter fT) W0 := ⟨⟨.slice none 0 0, b3, World.ownsRow_nil _ _ _ _, .inl rfl⟩, KpQ.refl _ _ _ _⟩
  have hkX : ∀ V, KpQ W0.heap.size X q W0 V → Kept X w V := fun V hV => (hk0.mono (fun _ _ h => h.elim)).trans ((Kept.refl X W0).kpq hV) (fun _ _ h => h)
  have hbX : ∀ V, KpQ W0.heap.size X q W0 V → Below w.heap.size w V := fun V hV => (hkX V hV).below (fun k hk => by rw [hX] at hk; omega) (Nat.le_refl _)
  gi_wp2_with fail
  try rw [hq]
  refine range_stateP (by omega) (gf := 92) (lb := #[.pointer (some ⟨q + 1, 0, none⟩), .pointer (some ⟨q + 1 + 1, 0, none⟩)]) rfl (enters_of Tryz.func92 (by kernel_rfl) rfl)
    (encs := fun x : Nat × Nat => #[.int .i64 (x.1 : Int), .int .i64 (x.2 : Int)]) (fun _ => rfl) hTells (Below.refl _ _)
    (fun A C ht => ⟨ht.size, fun k o _ ho hc => (ht.block k (blk_lt ho)).trans ho⟩) (fun h k => h.trans k)
    (fun W l' o o' hl' h1 h2 => KpQ.putObj W o' h1 h2 hl' (by omega))
    (fun pre W => PutD w.heap.size (.slice none 0 0) [] W0.heap.size X q W0 (pre.filter fT) W) (fun pre W W' row hh hg hr => PutD.from rfl hq0 trivial _ _ _ _ hh hg hr) (fun xs A C hh ht => hh.take hq0 ht hh.kp.size) (fun xs A C row hh _ _ => hh) h00
    (fun x a' _ => a' = { tmps := #[.pointer A, .int .i64 s, .int .i64 t, .pointer (some ⟨w.heap.size, 0, none⟩), undef, .pointer (some ⟨w.heap.size + 1, 0, none⟩), .slice none 0 0, .pointer (some ⟨q, 0, none⟩), .int .i64 (x.1 : Int), .int .i64 (x.2 : Int), .pointer A, .int .i64 s, .func (.func 92) #[] #[.pointer (some ⟨q + 1, 0, none⟩), .pointer (some ⟨q + 1 + 1, 0, none⟩)], .int .i64 (x.1 : Int), .int .i64 (x.2 : Int), undef, undef, undef, undef, undef, undef, undef, undef, undef, undef, undef, undef, undef, undef, undef, undef, undef, undef], defers := [] })
    (fun x a' _ A C row h _ _ => h) ?assign ?body ?done
  case assign =>
    intro l' pre x W K hI hK
    gi_wp2
    exact hK _ _ (KeepsFrom.refl _ _) (KpQ.refl _ _ _ _) hI rfl
  case body =>
    rintro l' pre x a' W hl' _ _ hpre
    have := hpre.length_le
    simp at this
  case done =>
    rintro D xs W hD' rfl hI hK
    obtain ⟨⟨v', h1, h2, _⟩, h3⟩ := hI
    have h2 : W.ownsRow w.heap.size 22 2 v' ([] : List (Nat × Nat)).length (([] : List (Nat × Nat)).flatMap prV) := h2
    obtain ⟨NL, hNL⟩ : ∃ NL : List (Nat × Nat), NL = [] := ⟨_, rfl⟩
    have hNL2 : srtD NL = [] := by rw [hNL]; simp [srtD]
    have hlen : NL.length ≤ 5000 := by rw [hNL]; simp
    rw [← hNL] at h2
    have HNL2 := Lib.hid hNL2
    have HL := Lib.hid hlen
    have HRow := Lib.hid h2
    have cq : W.cell? ⟨q, 0, none⟩ = some v' := by rw [blk_cell h1]; rfl
    have hvq : v'.ownBlock ≠ some q := fun e => by
      rcases h2.2 with ⟨rfl, _⟩ | ⟨g', cap', cur, rfl, _, hgg, _⟩
      · cases e
      · have : g' = q := by simpa [Value.ownBlock] using e
        subst this
        rw [h1] at hgg
        injection hgg with hgg
        injection hgg with _ hh _
        exact absurd hh (by decide)
    have hvD : v'.ownBlock ≠ some D := fun e => by
      rcases h2.2 with ⟨rfl, _⟩ | ⟨g', cap', cur, rfl, _, hgg, _⟩
      · cases e
      · have : g' = D := by simpa [Value.ownBlock] using e
        subst this
        rw [hK] at hgg
        cases hgg
    have hbW := hbX W h3
    have hvw : ∀ k, v'.ownBlock = some k → w.heap.size ≤ k := fun k e => (h2.lt k e).1
    have HF : Hid (∀ w4 : World, Kept (fun k => v'.ownBlock = some k) W w4 → w4.ownsRow w.heap.size 22 2 v' (srtD NL).length ((srtD NL).flatMap prV) → w4.cell? ⟨q, 0, none⟩ = some v' ∧ w4.heap[D]? = some (.deferred (some [])) ∧ DoP w (srtD NL) (.returned v') (w4.putObj D (.deferred none))) := by
      intro w4 k4 ho4
      refine ⟨k4.cell cq hvq, (k4.block D (blk_lt hK) hvD).trans hK, v', rfl, ?_, ?_⟩
      · refine ho4.kept (grownBy_putObj' w4 D (.deferred none)) ?_
        exact .inr (fun e => hvD e)
      · have hb5 : Below w.heap.size w w4 := hbW.trans (k4.below (fun k hk => hvw k hk) hbW.size)
        exact hb5.trans ⟨rfl, rfl, rfl, by simp [World.putObj], fun k hk => World.putObj_heap_other (by omega)⟩
    clear hTells h00 hkX hbX h1 h2 h3 hHas b1 b2 b3 b4 b5 hk0 hb0 hvq hvD hbW hvw hlen hNL hNL2
    gi_wp2_with fail
    refine ⟨trivial, (callsIn_wide.2 (HSort.out W v' NL HRow.out HL.out)).mono ?_⟩
    rintro e w4 ⟨rfl, ho4, hk4⟩
    obtain ⟨c4, hD5, hfin⟩ := HF.out w4 hk4 ho4
    have HFin := Lib.hid hfin
    clear hfin hk4 ho4 cq
    gi_wp2
    refine ⟨by simp, .inl ⟨_, _, rfl, run_takeDeferred hD5, ?_⟩⟩
    exact ⟨v', results_tmp (fn := Tryz.f26) (t := 6) rfl _ _ _, by have := HFin.out; rwa [HNL2.out] at this⟩
end Go.Proofs.YtekhlaodlagbdaaGreatDoor

/-
  How doors are compared: Doors' closure.
-/
namespace Go.Proofs.YtekhlaodlagbdaaGreatDoor
set_option maxRecDepth 100000
set_option linter.unusedSimpArgs false
open Go Go.RowKit Go.Sort
attribute [local go_sem] Oper.semAt_some

def cmpZ (a b : Int) : Int := if a < b then -1 else if b < a then 1 else 0
theorem nan_any (W : World) (a : Int) : Calls Tryz.prog 96 #[.int .i64 a] W fun e w' => e = .returned (.bool false) ∧ w' = W := by
  have d0 : (a != a) = false := by simp
  go_enter Tryz.func96, Tryz.ntmps96
  go_wp2
  go_ret
  exact ⟨rfl, rfl⟩
theorem ccmp_any (W : World) (a b : Int) : Calls Tryz.prog 69 #[.int .i64 a, .int .i64 b] W fun e w' => e = .returned (.int .i64 (cmpZ a b)) ∧ w' = W := by
  have HN1 := nan_any W a
  have HN2 := nan_any W b
  have e1 : a < b → cmpZ a b = -1 := fun h => by unfold cmpZ; rw [if_pos h]
  have e2 : a = b → cmpZ a b = 0 := fun h => by subst h; unfold cmpZ; simp
  have e3 : b < a → cmpZ a b = 1 := fun h => by unfold cmpZ; rw [if_neg (by omega), if_pos h]
  rcases Int.lt_trichotomy a b with h | h | h
  · rw [e1 h]
    clear e1 e2 e3
    go_enter Tryz.func69, Tryz.ntmps69
    go_wp2_with (first | (refine HN1.mono ?_; rintro e w' ⟨rfl, rfl⟩) | (refine HN2.mono ?_; rintro e w' ⟨rfl, rfl⟩))
    first | exact ⟨rfl, rfl⟩ | (go_ret; exact ⟨rfl, rfl⟩)
  · rw [e2 h]
    subst h
    clear e1 e2 e3
    go_enter Tryz.func69, Tryz.ntmps69
    go_wp2_with (first | (refine HN1.mono ?_; rintro e w' ⟨rfl, rfl⟩))
    first | exact ⟨rfl, rfl⟩ | (go_ret; exact ⟨rfl, rfl⟩)
  · rw [e3 h]
    have h' : ¬ a < b := by omega
    clear e1 e2 e3
    go_enter Tryz.func69, Tryz.ntmps69
    go_wp2_with (first | (refine HN1.mono ?_; rintro e w' ⟨rfl, rfl⟩) | (refine HN2.mono ?_; rintro e w' ⟨rfl, rfl⟩))
    first | exact ⟨rfl, rfl⟩ | (go_ret; exact ⟨rfl, rfl⟩)

def orZ (a b : Int) : Int := if a = 0 then b else a
theorem cor_any (W : World) (g : Nat) (a b : Int) (h0 : W.cell? ⟨g, 0, none⟩ = some (.int .i64 a)) (h1 : W.cell? ⟨g, 1, none⟩ = some (.int .i64 b)) :
    Calls Tryz.prog 68 #[.slice (some ⟨g, 0, none⟩) 2 2] W fun e w' => e = .returned (.int .i64 (orZ a b)) ∧ w' = W := by
  by_cases ha : a = 0
  · have e1 : orZ a b = b := by unfold orZ; rw [if_pos ha]
    rw [e1]
    subst ha
    clear e1
    by_cases hb : b = 0
    · subst hb
      go_enter Tryz.func68, Tryz.ntmps68
      go_wp2
      refine wp_loop_rounds 3 ?_
      rw [rounds_succ]
      go_wp2
      rw [rounds_succ]
      go_wp2
      rw [rounds_succ]
      go_wp2
      first | exact ⟨rfl, rfl⟩ | (go_ret; exact ⟨rfl, rfl⟩)
    · have d0 : (b != 0) = true := by simpa using hb
      have d1 : (b == 0) = false := by simpa using hb
      go_enter Tryz.func68, Tryz.ntmps68
      go_wp2
      refine wp_loop_rounds 3 ?_
      rw [rounds_succ]
      go_wp2
      rw [rounds_succ]
      go_wp2
      first | exact ⟨rfl, rfl⟩ | (go_ret; exact ⟨rfl, rfl⟩)
  · have e1 : orZ a b = a := by unfold orZ; rw [if_neg ha]
    rw [e1]
    have d0 : (a != 0) = true := by simpa using ha
    have d1 : (a == 0) = false := by simpa using ha
    clear e1
    go_enter Tryz.func68, Tryz.ntmps68
    go_wp2
    refine wp_loop_rounds 3 ?_
    rw [rounds_succ]
    go_wp2
    first | exact ⟨rfl, rfl⟩ | (go_ret; exact ⟨rfl, rfl⟩)
/-- Doors are compared by their first cells, then by their second ones. -/
def cmpD (x y : Nat × Nat) : Int := orZ (cmpZ x.1 y.1) (cmpZ x.2 y.2)
set_option maxHeartbeats 2000000 in
theorem dcmp_any (W : World) (x y : Nat × Nat) :
    Calls Tryz.prog 67 #[.agg #[.int .i64 (x.1 : Int), .int .i64 (x.2 : Int)], .agg #[.int .i64 (y.1 : Int), .int .i64 (y.2 : Int)]] W fun e w' => e = .returned (.int .i64 (cmpD x y)) ∧ ∃ n os, w' = grow (W.drewN n) os := by
  unfold cmpD
  have HC1 : Hid (∀ V, Calls Tryz.prog 69 #[.int .i64 (x.1 : Int), .int .i64 (y.1 : Int)] V fun e w' => e = .returned (.int .i64 (cmpZ (x.1 : Int) (y.1 : Int))) ∧ w' = V) := fun V => ccmp_any V _ _
  have HC2 : Hid (∀ V, Calls Tryz.prog 69 #[.int .i64 (x.2 : Int), .int .i64 (y.2 : Int)] V fun e w' => e = .returned (.int .i64 (cmpZ (x.2 : Int) (y.2 : Int))) ∧ w' = V) := fun V => ccmp_any V _ _
  generalize cmpZ (x.1 : Int) (y.1 : Int) = c0 at *
  generalize cmpZ (x.2 : Int) (y.2 : Int) = c1 at *
  generalize (x.1 : Int) = a0 at *
  generalize (x.2 : Int) = a1 at *
  generalize (y.1 : Int) = b0 at *
  generalize (y.2 : Int) = b1 at *
  have hB1 : ((W.alloc (.cells #[.int .i64 a0, .int .i64 a1] 22)).alloc (.cells #[.int .i64 b0, .int .i64 b1] 22)).heap[W.heap.size]? = some (.cells #[.int .i64 a0, .int .i64 a1] 22 (0, 0)) := (Below.heap_alloc _ _ _ (by simp)).trans (World.alloc_heap_new W _)
  have hB2 : ((W.alloc (.cells #[.int .i64 a0, .int .i64 a1] 22)).alloc (.cells #[.int .i64 b0, .int .i64 b1] 22)).heap[W.heap.size + 1]? = some (.cells #[.int .i64 b0, .int .i64 b1] 22 (0, 0)) := by
    have := World.alloc_heap_new (W.alloc (.cells #[.int .i64 a0, .int .i64 a1] 22)) (.cells #[.int .i64 b0, .int .i64 b1] 22)
    rwa [World.size_alloc] at this
  have HSK : ∀ V', Kept (fun _ => False) ((W.alloc (.cells #[.int .i64 a0, .int .i64 a1] 22)).alloc (.cells #[.int .i64 b0, .int .i64 b1] 22)) V' → V'.cell? ⟨W.heap.size, 0, none⟩ = some (.int .i64 a0) ∧ V'.cell? ⟨W.heap.size, 1, none⟩ = some (.int .i64 a1) ∧ V'.cell? ⟨W.heap.size + 1, 0, none⟩ = some (.int .i64 b0) ∧ V'.cell? ⟨W.heap.size + 1, 1, none⟩ = some (.int .i64 b1) := fun V' hk =>
    ⟨hk.cell (by rw [blk_cell hB1]; rfl) id, hk.cell (by rw [blk_cell hB1]; rfl) id, hk.cell (by rw [blk_cell hB2]; rfl) id, hk.cell (by rw [blk_cell hB2]; rfl) id⟩
  have HS1 : Hid (((W.alloc (.cells #[.int .i64 a0, .int .i64 a1] 22)).alloc (.cells #[.int .i64 b0, .int .i64 b1] 22)).drew.cell? ⟨W.heap.size, 0, none⟩ = some (.int .i64 a0) ∧ ((W.alloc (.cells #[.int .i64 a0, .int .i64 a1] 22)).alloc (.cells #[.int .i64 b0, .int .i64 b1] 22)).drew.cell? ⟨W.heap.size, 1, none⟩ = some (.int .i64 a1) ∧ ((W.alloc (.cells #[.int .i64 a0, .int .i64 a1] 22)).alloc (.cells #[.int .i64 b0, .int .i64 b1] 22)).drew.cell? ⟨W.heap.size + 1, 0, none⟩ = some (.int .i64 b0) ∧ ((W.alloc (.cells #[.int .i64 a0, .int .i64 a1] 22)).alloc (.cells #[.int .i64 b0, .int .i64 b1] 22)).drew.cell? ⟨W.heap.size + 1, 1, none⟩ = some (.int .i64 b1)) := HSK _ ((Kept.refl _ _).drew)
  have HS2 : Hid ((((W.alloc (.cells #[.int .i64 a0, .int .i64 a1] 22)).alloc (.cells #[.int .i64 b0, .int .i64 b1] 22)).drew.alloc (.cells #[.int .i64 c0, .int .i64 c1] 3)).cell? ⟨W.heap.size, 0, none⟩ = some (.int .i64 a0) ∧ (((W.alloc (.cells #[.int .i64 a0, .int .i64 a1] 22)).alloc (.cells #[.int .i64 b0, .int .i64 b1] 22)).drew.alloc (.cells #[.int .i64 c0, .int .i64 c1] 3)).cell? ⟨W.heap.size, 1, none⟩ = some (.int .i64 a1) ∧ (((W.alloc (.cells #[.int .i64 a0, .int .i64 a1] 22)).alloc (.cells #[.int .i64 b0, .int .i64 b1] 22)).drew.alloc (.cells #[.int .i64 c0, .int .i64 c1] 3)).cell? ⟨W.heap.size + 1, 0, none⟩ = some (.int .i64 b0) ∧ (((W.alloc (.cells #[.int .i64 a0, .int .i64 a1] 22)).alloc (.cells #[.int .i64 b0, .int .i64 b1] 22)).drew.alloc (.cells #[.int .i64 c0, .int .i64 c1] 3)).cell? ⟨W.heap.size + 1, 1, none⟩ = some (.int .i64 b1)) := HSK _ (((Kept.refl _ _).drew).alloc _)
  have hB3 : (((W.alloc (.cells #[.int .i64 a0, .int .i64 a1] 22)).alloc (.cells #[.int .i64 b0, .int .i64 b1] 22)).drew.alloc (.cells #[.int .i64 c0, .int .i64 c1] 3)).heap[((W.alloc (.cells #[.int .i64 a0, .int .i64 a1] 22)).alloc (.cells #[.int .i64 b0, .int .i64 b1] 22)).heap.size]? = some (.cells #[.int .i64 c0, .int .i64 c1] 3 (0, 0)) := World.alloc_heap_new ((W.alloc (.cells #[.int .i64 a0, .int .i64 a1] 22)).alloc (.cells #[.int .i64 b0, .int .i64 b1] 22)).drew (.cells #[.int .i64 c0, .int .i64 c1] 3)
  have HOr : Hid (Calls Tryz.prog 68 #[.slice (some ⟨((W.alloc (.cells #[.int .i64 a0, .int .i64 a1] 22)).alloc (.cells #[.int .i64 b0, .int .i64 b1] 22)).heap.size, 0, none⟩) 2 2] (((W.alloc (.cells #[.int .i64 a0, .int .i64 a1] 22)).alloc (.cells #[.int .i64 b0, .int .i64 b1] 22)).drew.alloc (.cells #[.int .i64 c0, .int .i64 c1] 3)) fun e w' => e = .returned (.int .i64 (orZ c0 c1)) ∧ w' = (((W.alloc (.cells #[.int .i64 a0, .int .i64 a1] 22)).alloc (.cells #[.int .i64 b0, .int .i64 b1] 22)).drew.alloc (.cells #[.int .i64 c0, .int .i64 c1] 3))) :=
    cor_any _ _ c0 c1 (by rw [blk_cell hB3]; rfl) (by rw [blk_cell hB3]; rfl)
  have hsz : ((W.alloc (.cells #[.int .i64 a0, .int .i64 a1] 22)).alloc (.cells #[.int .i64 b0, .int .i64 b1] 22)).heap.size = W.heap.size + 1 + 1 := by simp
  rw [hsz] at HOr
  have HF : Hid (∃ n os, (((W.alloc (.cells #[.int .i64 a0, .int .i64 a1] 22)).alloc (.cells #[.int .i64 b0, .int .i64 b1] 22)).drew.alloc (.cells #[.int .i64 c0, .int .i64 c1] 3)) = grow (W.drewN n) os) := ⟨1, #[.cells #[.int .i64 a0, .int .i64 a1] 22, .cells #[.int .i64 b0, .int .i64 b1] 22, .cells #[.int .i64 c0, .int .i64 c1] 3], by
    simp only [alloc_eq_grow]
    rw [grow_grow]
    show grow (grow W.drew _) _ = _
    rw [grow_grow]
    rfl⟩
  clear hB1 hB2 hB3 HSK hsz
  go_enter Tryz.func67, Tryz.ntmps67
  go_wp2_with fail
  refine wp_region_held_drew (S := fun V' => V'.cell? ⟨W.heap.size, 0, none⟩ = some (.int .i64 a0) ∧ V'.cell? ⟨W.heap.size, 1, none⟩ = some (.int .i64 a1) ∧ V'.cell? ⟨W.heap.size + 1, 0, none⟩ = some (.int .i64 b0) ∧ V'.cell? ⟨W.heap.size + 1, 1, none⟩ = some (.int .i64 b1)) (by kernel_rfl) HS1.out (fun hHeld => ?_)
  simp only [List.size_toArray, List.length_cons, List.length_nil, Nat.reduceAdd, Array.replicate_succ, Array.replicate_zero, List.push_toArray, List.nil_append, List.cons_append, List.append_toArray]
  refine take_op (i := 0) (v := ?_) rfl (by kernel_rfl) (by kernel_rfl) (by kernel_rfl) (fun _ _ _ h => h) (Or.inl ⟨by rfl, ?_⟩) (by assumption) ?_
  rotate_left
  · (intro w' hSw; (try dsimp only at hSw); go_simp; (try with_reducible rfl))
  (try simp only [Act.put, List.setIfInBounds_toArray, List.set_cons_zero, List.set_cons_succ])
  refine take_op (i := 1) (v := ?_) rfl (by kernel_rfl) (by kernel_rfl) (by kernel_rfl) (fun _ _ _ h => h) (Or.inl ⟨by rfl, ?_⟩) (by assumption) ?_
  rotate_left
  · (intro w' hSw; (try dsimp only at hSw); go_simp; (try with_reducible rfl))
  (try simp only [Act.put, List.setIfInBounds_toArray, List.set_cons_zero, List.set_cons_succ])
  refine take_op (i := 2) (v := ?_) rfl (by kernel_rfl) (by kernel_rfl) (by kernel_rfl) (fun _ _ _ h => h) (Or.inl ⟨by rfl, ?_⟩) (by assumption) ?_
  rotate_left
  · (intro w' hSw; (try dsimp only at hSw); go_simp; (try with_reducible rfl))
  (try simp only [Act.put, List.setIfInBounds_toArray, List.set_cons_zero, List.set_cons_succ])
  refine take_op (i := 3) (v := ?_) rfl (by kernel_rfl) (by kernel_rfl) (by kernel_rfl) (fun _ _ _ h => h) (Or.inl ⟨by rfl, ?_⟩) (by assumption) ?_
  rotate_left
  · (intro w' hSw; (try dsimp only at hSw); go_simp; (try with_reducible rfl))
  (try simp only [Act.put, List.setIfInBounds_toArray, List.set_cons_zero, List.set_cons_succ])
  refine take_op (i := 5) (v := ?_) rfl (by kernel_rfl) (by kernel_rfl) (by kernel_rfl) (fun _ _ _ h => h) (Or.inl ⟨by rfl, ?_⟩) (by assumption) ?_
  rotate_left
  · (intro w' hSw; (try dsimp only at hSw); go_simp; (try with_reducible rfl))
  (try simp only [Act.put, List.setIfInBounds_toArray, List.set_cons_zero, List.set_cons_succ])
  refine take_op (i := 6) (v := ?_) rfl (by kernel_rfl) (by kernel_rfl) (by kernel_rfl) (fun _ _ _ h => h) (Or.inl ⟨by rfl, ?_⟩) (by assumption) ?_
  rotate_left
  · (intro w' hSw; (try dsimp only at hSw); go_simp; (try with_reducible rfl))
  (try simp only [Act.put, List.setIfInBounds_toArray, List.set_cons_zero, List.set_cons_succ])
  refine take_op (i := 7) (v := ?_) rfl (by kernel_rfl) (by kernel_rfl) (by kernel_rfl) (fun _ _ _ h => h) (Or.inl ⟨by rfl, ?_⟩) (by assumption) ?_
  rotate_left
  · (intro w' hSw; (try dsimp only at hSw); go_simp; (try with_reducible rfl))
  (try simp only [Act.put, List.setIfInBounds_toArray, List.set_cons_zero, List.set_cons_succ])
  refine take_op (i := 8) (v := ?_) rfl (by kernel_rfl) (by kernel_rfl) (by kernel_rfl) (fun _ _ _ h => h) (Or.inl ⟨by rfl, ?_⟩) (by assumption) ?_
  rotate_left
  · (intro w' hSw; (try dsimp only at hSw); go_simp; (try with_reducible rfl))
  (try simp only [Act.put, List.setIfInBounds_toArray, List.set_cons_zero, List.set_cons_succ])
  refine wpAnyH_ready (rs := [4]) (by kernel_rfl) (by simp) ?_
  refine (cons_op rfl (fun K hK => ?_) AllReadyH.nil)
  go_simp
  refine (HC1.out _).mono ?_
  rintro e w' ⟨rfl, hw'⟩
  rw [hw']
  clear hw' w'
  (try go_wp2_with fail)
  refine hK.out _ _ HS1.out (fun hHeld => ?_)
  clear hK K
  (try simp only [Act.put, List.setIfInBounds_toArray, List.set_cons_zero, List.set_cons_succ])
  refine wpAnyH_ready (rs := [9]) (by kernel_rfl) (by simp) ?_
  refine (cons_op rfl (fun K hK => ?_) AllReadyH.nil)
  go_simp
  refine (HC2.out _).mono ?_
  rintro e w' ⟨rfl, hw'⟩
  rw [hw']
  clear hw' w'
  (try go_wp2_with fail)
  refine hK.out _ _ HS1.out (fun hHeld => ?_)
  clear hK K
  (try simp only [Act.put, List.setIfInBounds_toArray, List.set_cons_zero, List.set_cons_succ])
  refine wpAnyH_ready (rs := [10]) (by kernel_rfl) (by simp) ?_
  refine (cons_op rfl (fun K hK => ?_) AllReadyH.nil)
  go_simp
  refine hK.out _ _ HS2.out (fun hHeld => ?_)
  clear hK K
  (try simp only [Act.put, List.setIfInBounds_toArray, List.set_cons_zero, List.set_cons_succ])
  refine wpAnyH_ready (rs := [11]) (by kernel_rfl) (by simp) ?_
  refine (cons_op rfl (fun K hK => ?_) AllReadyH.nil)
  go_simp
  refine HOr.out.mono ?_
  rintro e w' ⟨rfl, hw'⟩
  rw [hw']
  clear hw' w'
  (try go_wp2_with fail)
  refine hK.out _ _ HS2.out (fun hHeld => ?_)
  clear hK K
  (try simp only [Act.put, List.setIfInBounds_toArray, List.set_cons_zero, List.set_cons_succ])
  refine take_op (i := 12) (v := ?_) rfl (by kernel_rfl) (by kernel_rfl) (by kernel_rfl) (fun _ _ _ h => h) (Or.inl ⟨by rfl, ?_⟩) (by assumption) ?_
  rotate_left
  · (intro w' hSw; (try dsimp only at hSw); go_simp; (try with_reducible rfl))
  (try simp only [Act.put, List.setIfInBounds_toArray, List.set_cons_zero, List.set_cons_succ])
  refine wpAnyH_done (by kernel_rfl) ?_ _
  clear HC1 HC2 HOr HS1 HS2 hHeld
  go_wp2
  first | exact ⟨rfl, HF.out⟩ | (go_ret; exact ⟨rfl, HF.out⟩)
end Go.Proofs.YtekhlaodlagbdaaGreatDoor

/-
  The library's sort by a comparison, at doors: the tables of numbers, and each fact by the program's own equations or the kernel's comparison.
-/
namespace Go.Proofs.YtekhlaodlagbdaaGreatDoor
set_option maxRecDepth 100000
open Go Go.Shelf

def laySortF_ren : Go.Shelf.Ren := ⟨fun | 6 => 66 | 15 => 94 | 14 => 95 | 28 => 123 | 29 => 124 | 20 => 125 | 21 => 126 | 22 => 127 | 23 => 128 | 24 => 129 | 25 => 130 | 26 => 131 | 27 => 132 | 46 => 148 | 47 => 144 | 48 => 145 | 49 => 149 | 50 => 150 | 57 => 162 | n => n, fun | 22 => 43 | 24 => 22 | 25 => 107 | 3 => 3 | 39 => 124 | 0 => 0 | 53 => 54 | 55 => 149 | 4 => 4 | 46 => 154 | 45 => 153 | 50 => 158 | 5 => 5 | 9 => 9 | 66 => 185 | 70 => 189 | 76 => 200 | 77 => 80 | n => n, fun | n => n⟩
theorem laySortF : Go.Proofs.SlLaysF0.n6 Tryz.prog laySortF_ren := {
  mixed := by kernel_rfl,
  f6 := ⟨"slices.SortFunc[[][2]int,[2]int]", by decide, Tryz.func66.trans (congrArg some (by kernel_rfl))⟩,
  f14 := ⟨"slices.pdqsortCmpFunc[[2]int]", by decide, Tryz.func95.trans (congrArg some (by kernel_rfl))⟩,
  f15 := Tryz.func94.trans (congrArg some (by kernel_rfl)),
  f20 := ⟨"slices.insertionSortCmpFunc[[2]int]", by decide, Tryz.func125.trans (congrArg some (by kernel_rfl))⟩,
  f21 := ⟨"slices.heapSortCmpFunc[[2]int]", by decide, Tryz.func126.trans (congrArg some (by kernel_rfl))⟩,
  f22 := ⟨"slices.breakPatternsCmpFunc[[2]int]", by decide, Tryz.func127.trans (congrArg some (by kernel_rfl))⟩,
  f23 := ⟨"slices.choosePivotCmpFunc[[2]int]", by decide, Tryz.func128.trans (congrArg some (by kernel_rfl))⟩,
  f24 := ⟨"slices.reverseRangeCmpFunc[[2]int]", by decide, Tryz.func129.trans (congrArg some (by kernel_rfl))⟩,
  f25 := ⟨"slices.partialInsertionSortCmpFunc[[2]int]", by decide, Tryz.func130.trans (congrArg some (by kernel_rfl))⟩,
  f26 := ⟨"slices.partitionEqualCmpFunc[[2]int]", by decide, Tryz.func131.trans (congrArg some (by kernel_rfl))⟩,
  f27 := ⟨"slices.partitionCmpFunc[[2]int]", by decide, Tryz.func132.trans (congrArg some (by kernel_rfl))⟩,
  f28 := Tryz.func123.trans (congrArg some (by kernel_rfl)),
  f29 := Tryz.func124.trans (congrArg some (by kernel_rfl)),
  f46 := ⟨"slices.siftDownCmpFunc[[2]int]", by decide, Tryz.func148.trans (congrArg some (by kernel_rfl))⟩,
  f47 := Tryz.func144.trans (congrArg some (by kernel_rfl)),
  f48 := Tryz.func145.trans (congrArg some (by kernel_rfl)),
  f49 := ⟨"slices.medianAdjacentCmpFunc[[2]int]", by decide, Tryz.func149.trans (congrArg some (by kernel_rfl))⟩,
  f50 := ⟨"slices.medianCmpFunc[[2]int]", by decide, Tryz.func150.trans (congrArg some (by kernel_rfl))⟩,
  f57 := ⟨"slices.order2CmpFunc[[2]int]", by decide, Tryz.func162.trans (congrArg some (by kernel_rfl))⟩,
  t0 := Tryz.underlying0,
  a0 := Tryz.isAgg0,
  z0 := Tryz.sizeOf0,
  v0 := Tryz.zeroValue0,
  t3 := Tryz.underlying3,
  a3 := Tryz.isAgg3,
  z3 := Tryz.sizeOf3,
  v3 := Tryz.zeroValue3,
  t4 := Tryz.underlying4,
  a4 := Tryz.isAgg4,
  z4 := Tryz.sizeOf4,
  v4 := Tryz.zeroValue4,
  t5 := Tryz.underlying5,
  a5 := Tryz.isAgg5,
  z5 := Tryz.sizeOf5,
  v5 := Tryz.zeroValue5,
  t9 := Tryz.underlying9,
  a9 := Tryz.isAgg9,
  z9 := Tryz.sizeOf9,
  v9 := Tryz.zeroValue9,
  t22 := Tryz.underlying43,
  a22 := Tryz.isAgg43,
  z22 := Tryz.sizeOf43,
  v22 := Tryz.zeroValue43,
  t25 := Tryz.underlying107,
  a25 := Tryz.isAgg107,
  z25 := Tryz.sizeOf107,
  v25 := Tryz.zeroValue107,
  t39 := Tryz.underlying124,
  a39 := Tryz.isAgg124,
  z39 := Tryz.sizeOf124,
  v39 := Tryz.zeroValue124,
  t45 := Tryz.underlying153,
  a45 := Tryz.isAgg153,
  z45 := Tryz.sizeOf153,
  v45 := Tryz.zeroValue153,
  t46 := Tryz.underlying154,
  a46 := Tryz.isAgg154,
  z46 := Tryz.sizeOf154,
  v46 := Tryz.zeroValue154,
  t50 := Tryz.underlying158,
  a50 := Tryz.isAgg158,
  z50 := Tryz.sizeOf158,
  v50 := Tryz.zeroValue158,
  t53 := Tryz.underlying54,
  a53 := Tryz.isAgg54,
  z53 := Tryz.sizeOf54,
  v53 := Tryz.zeroValue54,
  t55 := Tryz.underlying149,
  a55 := Tryz.isAgg149,
  z55 := Tryz.sizeOf149,
  v55 := Tryz.zeroValue149,
  t66 := Tryz.underlying185,
  a66 := Tryz.isAgg185,
  z66 := Tryz.sizeOf185,
  v66 := Tryz.zeroValue185,
  t70 := Tryz.underlying189,
  a70 := Tryz.isAgg189,
  z70 := Tryz.sizeOf189,
  v70 := Tryz.zeroValue189,
  t76 := Tryz.underlying200,
  a76 := Tryz.isAgg200,
  z76 := Tryz.sizeOf200,
  v76 := Tryz.zeroValue200,
  t77 := Tryz.underlying80,
  a77 := Tryz.isAgg80,
  z77 := Tryz.sizeOf80,
  v77 := Tryz.zeroValue80 }

end Go.Proofs.YtekhlaodlagbdaaGreatDoor

/-
  The sorting of doors.
-/
namespace Go.Proofs.YtekhlaodlagbdaaGreatDoor
set_option maxRecDepth 100000
set_option linter.unusedSimpArgs false
open Go Go.RowKit Go.Sort Go.Shelf

theorem flat_len : ∀ l : List (Nat × Nat), (l.flatMap prV).length = l.length * 2
  | [] => rfl
  | d :: r => by rw [List.flatMap_cons, List.length_append, flat_len r]; simp [prV]; omega
theorem flat_get : ∀ (l : List (Nat × Nat)) (t : Nat), t < l.length * 2 → (l.flatMap prV)[t]? = some ((prV l.toArray[t / 2]!)[t % 2]!)
  | [], t, h => by simp at h
  | d :: r, 0, _ => by simp [prV]
  | d :: r, 1, _ => by simp [prV]
  | d :: r, t + 2, h => by
    have h' : t < r.length * 2 := by simp at h; omega
    have := flat_get r t h'
    have e1 : (t + 2) / 2 = t / 2 + 1 := by omega
    have e2 : (t + 2) % 2 = t % 2 := by omega
    rw [List.flatMap_cons, e1, e2]
    have e3 : (prV d ++ r.flatMap prV)[t + 2]? = (r.flatMap prV)[t]? := by simp [prV]
    rw [e3, this]
    simp
theorem flat_arr (l : List (Nat × Nat)) {t : Nat} (h : t < l.length * 2) : (flatK prV 2 l.toArray)[t]! = (prV l.toArray[t / 2]!)[t % 2]! := get_flatK prV 2 l.toArray t (by simpa using h)

theorem ltD (x y : Nat × Nat) : ltOf cmpD x y = decide (x.1 < y.1 ∨ x.1 = y.1 ∧ x.2 < y.2) := by
  unfold ltOf cmpD orZ cmpZ
  rcases Nat.lt_trichotomy x.1 y.1 with h | h | h
  · have e : ((x.1 : Nat) : Int) < (y.1 : Int) := by omega
    rw [if_pos e]; simp [h]
  · have e : ¬ ((x.1 : Nat) : Int) < (y.1 : Int) := by omega
    have e2 : ¬ ((y.1 : Nat) : Int) < (x.1 : Int) := by omega
    rw [if_neg e, if_neg e2, if_pos rfl]
    rcases Nat.lt_trichotomy x.2 y.2 with k | k | k
    · have e3 : ((x.2 : Nat) : Int) < (y.2 : Int) := by omega
      rw [if_pos e3]; simp [h, k]
    · have e3 : ¬ ((x.2 : Nat) : Int) < (y.2 : Int) := by omega
      have e4 : ¬ ((y.2 : Nat) : Int) < (x.2 : Int) := by omega
      rw [if_neg e3, if_neg e4]; simp [h, k]
    · have e3 : ¬ ((x.2 : Nat) : Int) < (y.2 : Int) := by omega
      have e4 : ((y.2 : Nat) : Int) < (x.2 : Int) := by omega
      rw [if_neg e3, if_pos e4]; simp [h]; omega
  · have e : ¬ ((x.1 : Nat) : Int) < (y.1 : Int) := by omega
    have e2 : ((y.1 : Nat) : Int) < (x.1 : Int) := by omega
    rw [if_neg e, if_pos e2]; simp; omega
theorem swoD : SWO (ltOf cmpD) where
  irrefl x := by rw [ltD]; simp
  trans x y z h1 h2 := by rw [ltD] at *; simp at *; omega
  ntrans x y z h1 h2 := by rw [ltD] at *; simp at *; omega
theorem leD : (fun x y : Nat × Nat => !(ltOf cmpD) y x) = fun x y => decide (x.1 < y.1 ∨ x.1 = y.1 ∧ x.2 ≤ y.2) := by
  funext x y
  rw [ltD]
  by_cases h : y.1 < x.1 ∨ y.1 = x.1 ∧ y.2 < x.2
  · rw [decide_eq_true h, decide_eq_false (by omega)]; rfl
  · rw [decide_eq_false h, decide_eq_true (by omega)]; rfl

set_option maxHeartbeats 2000000 in
theorem sortD_any (B : Nat) : SortsD B := by
  intro W v l h hl
  rcases h.2 with ⟨rfl, h0⟩ | ⟨g, cap, cur, rfl, hbase, hg, h1, h2, h3, h4⟩
  · obtain rfl : l = [] := List.eq_nil_of_length_eq_zero h0
    refine (AnyF.slices_SortFunc_none laySortF none 0 _ W).mono ?_
    rintro e w' ⟨rfl, rfl⟩
    have e : srtD [] = [] := by simp [srtD]
    rw [e]
    exact ⟨rfl, h, Kept.refl _ _⟩
  · have HO : W.ownsRow B 22 2 (.slice (some ⟨g, 0, none⟩) l.length cap) l.length (l.flatMap prV) := h
    have eg : ∀ args w, (callFunc 67 args).run Tryz.prog w = .ok (.enter 67 args) w := enters_of Tryz.func67 (by kernel_rfl) rfl
    have hgl := blk_lt hg
    have := AnyQ.slices_SortFunc_total laySortF 2 Tryz.isAgg22 Tryz.sizeOf22 prV (fun _ => rfl) (fun x v hv => by simp [prV] at hv; rcases hv with rfl | rfl <;> rfl) cmpD swoD 67 #[] g 0 cap l.toArray W eg
      (fun _ _ _ _ x y => dcmp_any _ x y) (by
        intro j hj
        have hj : j < l.length * 2 := by simpa using hj
        refine ⟨?_, by rw [Nat.zero_add]; exact HO.frozenAt j⟩
        rw [Nat.zero_add, HO.cellAt j (by omega), flat_get l j hj, flat_arr l hj]
        rfl) hgl (by simp; omega) (fun x y a b => by
        rw [ltD] at a b
        simp only [decide_eq_false_iff_not] at a b
        exact Prod.ext (by omega) (by omega))
    rw [leD] at this
    have hsz : l.toArray.size = l.length := by simp
    rw [hsz] at this
    refine Calls.mono this ?_
    rintro e w' ⟨rfl, n, os, rfl⟩
    have hl2 : l.toArray.toList = l := by simp
    rw [hl2]
    show _ ∧ World.ownsRow (grow (putRow id (Go.Sort.ahead W n) g 0 (flatK prV 2 (srtD l).toArray)) os) _ _ _ _ _ _ ∧ Kept _ W (grow (putRow id (Go.Sort.ahead W n) g 0 (flatK prV 2 (srtD l).toArray)) os)
    have hheap : ∀ k, k < W.heap.size → (grow (putRow id (Go.Sort.ahead W n) g 0 (flatK prV 2 (srtD l).toArray)) os).heap[k]? = if g = k then (W.heap[k]?).map (onCells (putCells id 0 (flatK prV 2 (srtD l).toArray))) else W.heap[k]? := by
      intro k hk
      show (_ ++ os)[k]? = _
      rw [Array.getElem?_append, if_pos (by simpa [putRow, mapBlock, Go.Sort.ahead] using hk)]
      simp only [putRow, mapBlock, Array.getElem?_modify]
      rfl
    have hb := hheap g hgl
    rw [if_pos rfl, hg] at hb
    refine ⟨rfl, ?_, ⟨rfl, rfl, rfl, by simp [grow, putRow, mapBlock, Go.Sort.ahead], fun k hk hx => ?_⟩⟩
    · rw [← srtD_length l]
      refine ⟨by rw [flat_len], .inr ⟨g, cap, _, rfl, hbase, hb, by rw [srtD_length]; exact h1, h2, by simp [putCells]; omega, ?_⟩⟩
      apply List.ext_getElem?
      intro j
      by_cases hj : j < (srtD l).length * 2
      · rw [List.getElem?_take_of_lt (by omega), Array.getElem?_toList, flat_get _ j hj]
        have hjc : j < cur.size := by rw [srtD_length] at hj; omega
        have := flat_arr (srtD l) hj
        simp [putCells, hjc]
        rw [if_pos (by omega)]
        simpa using this
      · rw [List.getElem?_eq_none (by rw [List.length_take]; omega), List.getElem?_eq_none (by rw [flat_len]; omega)]
    · rw [hheap k hk, if_neg (fun e => hx (by show some g = some k; rw [e]))]
end Go.Proofs.YtekhlaodlagbdaaGreatDoor
