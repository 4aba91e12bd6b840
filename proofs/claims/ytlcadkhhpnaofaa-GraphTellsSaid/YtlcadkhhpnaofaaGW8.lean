/-
  Dist.
-/
import Derived.Test.YtlcadkhhpnaofaaGW7
namespace Go.Proofs.Ytlcadkhhpnaofaa
set_option maxRecDepth 100000
open Go Go.RowKit Gq
attribute [local go_sem] Oper.semAt_some

/-! What a caller holds, through an iterator's steps and through the loop's own turns. -/
theorem blk_stp {G G' : Nat → Prop} {A B : World} (h : Stp G G' A B) {k : Nat} (hk : k < A.heap.size) (hG : ¬ G k) : B.heap[k]? = A.heap[k]? ∧ ¬ G' k :=
  ⟨h.1.block k hk hG, fun h2 => by
    rcases h.2 k h2 with h3 | h3
    · exact hG h3
    · omega⟩
theorem blk_own {A B : World} {base k : Nat} {row : Option Nat} {cs : Array Value} {t : TypeId} {fr : Nat × Nat} (hg : A.grownBy B row) (hr : ∀ r, row = some r → base ≤ r ∧ ∃ o : Obj, A.heap[r]? = some o ∧ o.isCells = false) (h : A.heap[k]? = some (.cells cs t fr)) : B.heap[k]? = some (.cells cs t fr) := by
  rw [hg.block k (blk_lt h) (fun e => ?_)]
  · exact h
  · obtain ⟨_, o, ho, hc⟩ := hr k e.symm
    rw [h] at ho
    cases ho
    cases hc
theorem below_stp {G G' : Nat → Prop} {A B w : World} {n : Nat} (h : Stp G G' A B) (hb : Below n w A) (hn : n ≤ A.heap.size) (hG : ∀ k, G k → n ≤ k) : Below n w B ∧ ∀ k, G' k → n ≤ k :=
  ⟨hb.trans (h.1.below hG hn), fun _ hk => by
    rcases h.2 _ hk with h3 | h3
    · exact hG _ h3
    · omega⟩
theorem below_own {A B w : World} {n base : Nat} {row : Option Nat} (hg : A.grownBy B row) (hr : ∀ r, row = some r → base ≤ r ∧ ∃ o : Obj, A.heap[r]? = some o ∧ o.isCells = false) (hb : Below n w A) (hn : n ≤ A.heap.size) (hbase : n ≤ base) : Below n w B :=
  hb.trans (((Kept.refl (fun k => row = some k) A).grown hg (fun _ h => .inl h)).below (fun _ h => Nat.le_trans hbase (hr _ h).1) hn)

/-- A list of numbers in a block. -/
def ic (l : List Int) : Array Value := (l.map (Value.int .i64)).toArray
theorem ic_size (l : List Int) : (ic l).size = l.length := by simp [ic]
theorem ic_set (l : List Int) (i : Nat) (x : Int) : (ic l).setIfInBounds i (.int .i64 x) = ic (l.set i x) := by
  apply Array.toList_inj.1
  simp [ic]
theorem ic_get {l : List Int} {i : Nat} (h : i < l.length) : (ic l)[i]? = some (.int .i64 (l.getD i 0)) := by simp [ic, List.getD, h]
theorem isL_of {w : World} {g c : Nat} {l : List Int} {t : TypeId} (h : w.heap[g]? = some (.cells (ic l) t (0, 0))) : IsL w (.slice (some ⟨g, 0, none⟩) l.length c) l :=
  ⟨_, _, rfl, (fun e => by cases e), fun j hj => ⟨g, rfl, by rw [blk_cell h, ic_get hj]⟩⟩

structure DistI (w : World) (D p n : Nat) (G : Nat → Prop) (pre : List (Nat × Nat)) (W : World) : Prop where
  d : W.heap[D]? = some (.cells (ic (lay pre (List.replicate n (-1)))) 3 (0, 0))
  v : W.heap[p]? = some (.cells #[.slice (some ⟨D, 0, none⟩) n n] 34 (0, 0))
  gd : ¬ G D
  gv : ¬ G p
  b : Below w.heap.size w W
  g : ∀ k, G k → w.heap.size ≤ k
theorem DistI.own {w : World} {D p n base : Nat} (hb : w.heap.size ≤ base) (G : Nat → Prop) : OwnFrom base (DistI w D p n G) := fun _ _ _ _ h hg hr =>
  ⟨blk_own hg hr h.d, blk_own hg hr h.v, h.gd, h.gv, below_own hg hr h.b h.b.size hb, h.g⟩
theorem DistI.stp {w : World} {D p n : Nat} {G G' : Nat → Prop} {pre : List (Nat × Nat)} {A B : World} (h : DistI w D p n G pre A) (hs : Stp G G' A B) : DistI w D p n G' pre B :=
  ⟨(blk_stp hs (blk_lt h.d) h.gd).1.trans h.d, (blk_stp hs (blk_lt h.v) h.gv).1.trans h.v, (blk_stp hs (blk_lt h.d) h.gd).2, (blk_stp hs (blk_lt h.v) h.gv).2, (below_stp hs h.b h.b.size h.g).1, (below_stp hs h.b h.b.size h.g).2⟩

/-- Behind Dist: a new list. -/
def NewL (w : World) (l : List Int) (e : Ending) (w' : World) : Prop :=
  ∃ g n, e = .returned (.slice (some ⟨g, 0, none⟩) n n) ∧ n = l.length ∧ w'.heap[g]? = some (.cells (ic l) 3 (0, 0)) ∧ w.heap.size ≤ g ∧ Below w.heap.size w w'

theorem dist_start {w W1 : World} {b a D : Nat} {R : Gr} {S : Nat → Prop} (h : GAt w b R S) (hD : W1.heap[D]? = some (.cells (List.replicate R.length (Value.int .i64 (-1))).toArray 3 (0, 0))) (hb : Below w.heap.size w W1) :
    ∀ W0, W0 = ((((W1.alloc (.cells #[.slice (some ⟨D, 0, none⟩) R.length R.length] 34)).alloc (.cells (madeCells #[.bool false] R.length) 4)).alloc (.cells #[.pointer (some ⟨b, 0, none⟩)] 23)).alloc (.cells #[.int .i64 (a : Int)] 3)).alloc (.cells #[.slice (some ⟨W1.heap.size + 1, 0, none⟩) R.length R.length] 53) →
      DistI w D W1.heap.size R.length (fun k => k = W1.heap.size + 1) [] W0 ∧ GAt W0 b R S ∧ W0.heap[W1.heap.size + 1]? = some (.cells (bs (List.replicate R.length false)) 4 (0, 0)) ∧
      W0.cell? ⟨W1.heap.size + 4, 0, none⟩ = some (.slice (some ⟨W1.heap.size + 1, 0, none⟩) R.length R.length) ∧ W0.cell? ⟨W1.heap.size + 3, 0, none⟩ = some (.int .i64 (a : Int)) ∧ W0.cell? ⟨W1.heap.size + 2, 0, none⟩ = some (.pointer (some ⟨b, 0, none⟩)) ∧ W0.heap.size = W1.heap.size + 5 := by
  rintro W0 rfl
  have hs1 := hb.size
  have al : ∀ (A : World) (o : Obj) (k : Nat) {x : Obj}, A.heap[k]? = some x → (A.alloc o).heap[k]? = some x := fun A o k {x} hx => (Below.heap_alloc A o k (blk_lt hx)).trans hx
  have nw : ∀ (A : World) (o : Obj) (k : Nat), k = A.heap.size → (A.alloc o).heap[k]? = some o := fun A o k e => by rw [e]; exact heap_alloc_new A o
  have hDl := blk_lt hD
  refine ⟨⟨?_, ?_, ?_, ?_, ?_, ?_⟩, ?_, ?_, ?_, ?_, ?_, ?_⟩
  · have e : ic (lay [] (List.replicate R.length (-1))) = (List.replicate R.length (Value.int .i64 (-1))).toArray := by simp [ic, lay]
    rw [e]
    exact al _ _ _ (al _ _ _ (al _ _ _ (al _ _ _ (al _ _ _ hD))))
  · exact al _ _ _ (al _ _ _ (al _ _ _ (al _ _ _ (nw _ _ _ rfl))))
  · show ¬ D = _; omega
  · show ¬ W1.heap.size = _; omega
  · exact ((((hb.alloc hs1 _).alloc (by simp; omega) _).alloc (by simp; omega) _).alloc (by simp; omega) _).alloc (by simp; omega) _
  · rintro k rfl; omega
  · exact ((((h.below hb (Nat.le_refl _)).alloc _).alloc _).alloc _).alloc _ |>.alloc _
  · rw [← bs_made]
    exact al _ _ _ (al _ _ _ (al _ _ _ (nw _ _ _ (by simp))))
  · rw [blk_cell (nw _ _ _ (by simp))]; rfl
  · rw [blk_cell (al _ _ _ (nw _ _ _ (by simp)))]; rfl
  · rw [blk_cell (al _ _ _ (al _ _ _ (nw _ _ _ (by simp))))]; rfl
  · simp

set_option maxHeartbeats 2000000 in
theorem dist_any {w : World} {b a : Nat} {R : Gr} {S : Nat → Prop} (h : GAt w b R S) (hO : Ok R) (ha : a < R.length) :
    Calls Try.prog 13 #[.pointer (some ⟨b, 0, none⟩), .int .i64 (a : Int)] w (NewL w (distL R a)) := by
  have HH := Lib.hid (has_any h (a : Int))
  have hnode : isNode R.length (a : Int) = true := by simp [isNode, ha]
  rw [hnode] at HH
  have hn := hO.size
  have hmk := makeBools_run R.length (by omega)
  have HG := Lib.hid h
  have HOk := Lib.hid hO
  have HL : Hid (∀ W, Below w.heap.size w W → Calls Try.prog 18 #[.pointer (some ⟨b, 0, none⟩)] W fun e w' => e = .returned (.int .i64 (R.length : Int)) ∧ w' = W) := fun W hb => len_any (h.below hb (Nat.le_refl _))
  have HB0 : Hid (∀ o, Below w.heap.size w (w.alloc o)) := fun o => (Below.refl _ w).alloc (Nat.le_refl _) _
  clear hnode h hO
  obtain ⟨n, hnR⟩ : ∃ n, n = R.length := ⟨_, rfl⟩
  rw [← hnR] at ha hn hmk HL
  have HN := Lib.hid hnR
  have hn1 : 1 ≤ n := by omega
  clear hnR
  refine (callsIn_wide (n := 9)).1 ?_
  refine callsIn_of_wp_marks Try.func13 rfl trivial ?_ rfl
  simp only [Try.ntmps13, List.size_toArray, List.length_cons, List.length_nil, Nat.reduceAdd, Nat.reduceSub, Array.replicate_succ, Array.replicate_zero, List.push_toArray, List.append_toArray, List.nil_append, List.cons_append]
  gi_wp2_with fail
  refine ⟨trivial, (callsIn_wide.2 HH.out).mono ?_⟩
  rintro e w' ⟨rfl, hw⟩
  obtain rfl := hw.symm
  gi_wp2_with fail
  refine ⟨trivial, (callsIn_wide.2 (HL.out _ (HB0.out _))).mono ?_⟩
  rintro e w' ⟨rfl, hw⟩
  obtain rfl := hw.symm
  gi_wp2_with fail
  refine ⟨trivial, (callsIn_wide.2 (repeat_any (N := n) (heap_alloc_new w _) hn1 hn)).mono ?_⟩
  rintro e W1 ⟨D, rfl, hD, hDw, hb1⟩
  have HB1 : Hid (Below w.heap.size w W1) := (HB0.out _).trans (hb1.mono (by simp))
  have HD := Lib.hid hD
  have hDw' : w.heap.size ≤ D := by simp at hDw; omega
  clear hD hb1 hDw
  gi_wp2_with fail
  refine ⟨trivial, (callsIn_wide.2 (HL.out _ (HB1.out.alloc HB1.out.size _))).mono ?_⟩
  rintro e w' ⟨rfl, hw⟩
  obtain rfl := hw.symm
  gi_wp2_with fail
  refine ⟨trivial, (callsIn_wide.2 (gsearch_any _ _ _ _ _ _)).mono ?_⟩
  rintro e w' ⟨rfl, hw⟩
  obtain rfl := hw.symm
  gi_wp2_with fail
  obtain ⟨W0, hW0⟩ : ∃ W0, W0 = ((((W1.alloc (.cells #[.slice (some ⟨D, 0, none⟩) n n] 34)).alloc (.cells (madeCells #[.bool false] n) 4)).alloc (.cells #[.pointer (some ⟨b, 0, none⟩)] 23)).alloc (.cells #[.int .i64 (a : Int)] 3)).alloc (.cells #[.slice (some ⟨W1.heap.size + 1, 0, none⟩) n n] 53) := ⟨_, rfl⟩
  rw [← hW0]
  have hst : DistI w D W1.heap.size R.length (fun k => k = W1.heap.size + 1) [] W0 ∧ GAt W0 b R S ∧ W0.heap[W1.heap.size + 1]? = some (.cells (bs (List.replicate R.length false)) 4 (0, 0)) ∧
      W0.cell? ⟨W1.heap.size + 4, 0, none⟩ = some (.slice (some ⟨W1.heap.size + 1, 0, none⟩) R.length R.length) ∧ W0.cell? ⟨W1.heap.size + 3, 0, none⟩ = some (.int .i64 (a : Int)) ∧ W0.cell? ⟨W1.heap.size + 2, 0, none⟩ = some (.pointer (some ⟨b, 0, none⟩)) ∧ W0.heap.size = W1.heap.size + 5 := by
    refine dist_start HG.out (by rw [← HN.out]; exact HD.out) HB1.out W0 ?_
    rw [← HN.out]; exact hW0
  have hDl := blk_lt HD.out
  have hs1 := HB1.out.size
  clear hW0
  obtain ⟨hI0, hg0, hm0, c1, c2, c3, hz⟩ := hst
  have hSl : ∀ k, S k → k < w.heap.size := HG.out.lt
  have hxs : ∀ pre x, pre ++ [x] <+: tells R (List.replicate R.length false) a → x.1 < n := by
    rintro pre x ⟨r, hr⟩
    obtain ⟨far, hlv⟩ := tells_lv HOk.out (M0 := List.replicate R.length false) (a := a) (by rw [← HN.out]; exact ha) (by simp) (mt_none _ _)
    rw [HN.out]
    exact (hlv.new x.1 (List.mem_append.2 (.inl (List.mem_map.2 ⟨x, by rw [← hr]; simp, rfl⟩)))).2
  have HXS := Lib.hid hxs
  clear hxs
  refine range_wide (by omega) (gf := 44) (lb := #[.pointer (some ⟨W1.heap.size + 4, 0, none⟩), .pointer (some ⟨W1.heap.size + 3, 0, none⟩), .pointer (some ⟨W1.heap.size + 2, 0, none⟩)]) rfl (enters_of Try.func44 (by kernel_rfl) rfl)
    (encs := fun x : Nat × Nat => #[.int .i64 (x.1 : Int), .int .i64 (x.2 : Int)]) (fun _ => rfl)
    (search_tells (9 - 1) (by omega) hg0 HOk.out (by rw [← HN.out]; exact ha) (by simp) hm0 c1 c2 c3 (by
      rintro (h | h | h | h)
      · have := hSl _ h; omega
      · omega
      · omega
      · omega)) (Below.refl _ _)
    (by
      rintro k (h | h | h | h)
      · have := hSl _ h; omega
      · omega
      · omega
      · omega)
    (by rintro k rfl; omega)
    (DistI w D W1.heap.size R.length) (fun G => DistI.own (by omega) G) (fun _ _ _ _ _ h hs => h.stp hs) ?hS hI0
    (fun x a' _ => a' = { tmps := #[.pointer (some ⟨b, 0, none⟩), .int .i64 (a : Int), undef, undef, .slice none 0 0, .pointer (some ⟨W1.heap.size, 0, none⟩), .int .i64 (x.1 : Int), .int .i64 (x.2 : Int), .pointer (some ⟨b, 0, none⟩), .int .i64 (a : Int), .bool true, .bool false, .slice (some ⟨w.heap.size, 0, none⟩) 1 1, .pointer (some ⟨b, 0, none⟩), .int .i64 (n : Int), .slice (some ⟨D, 0, none⟩) n n, .pointer (some ⟨b, 0, none⟩), .int .i64 (a : Int), .pointer (some ⟨b, 0, none⟩), .int .i64 (n : Int), .slice (some ⟨W1.heap.size + 1, 0, none⟩) n n,
      .func (.func 44) #[] #[.pointer (some ⟨W1.heap.size + 1 + 1 + 2, 0, none⟩), .pointer (some ⟨W1.heap.size + 1 + 1 + 1, 0, none⟩), .pointer (some ⟨W1.heap.size + 1 + 1, 0, none⟩)], .int .i64 (x.1 : Int), .int .i64 (x.2 : Int), undef, undef, undef, undef, undef], defers := [] })
    ?hAx ?assign ?body ?done
  case hS =>
    intro G _ A B row h hg hr
    exact blk_own hg hr h
  case hAx => exact fun _ _ _ _ _ _ h _ _ => h
  case assign =>
    intro l G pre x W K hI hK
    gi_wp2
    exact hK _ _ (KeepsFrom.refl _ _) (KeepB.refl _ _) hI rfl
  case body =>
    rintro l G pre x a' W hl _ hI rfl hpre
    have hx := HXS.out pre x hpre
    have c5 : W.cell? ⟨W1.heap.size, 0, none⟩ = some (.slice (some ⟨D, 0, none⟩) n n) := by rw [blk_cell hI.v, ← HN.out]; rfl
    have hll : (lay pre (List.replicate R.length (-1))).length = n := by rw [lay_length, List.length_replicate, HN.out]
    have cd : ∃ u, W.cell? ⟨D, x.1, none⟩ = some u := ⟨_, by rw [blk_cell hI.d]; exact ic_get (by omega)⟩
    have fd := blk_free hI.d x.1
    obtain ⟨u, cd⟩ := cd
    have HQ : Hid (roundEnd W0.heap.size (fun k => S k ∨ k = W1.heap.size + 4 ∨ k = W1.heap.size + 3 ∨ k = W1.heap.size + 2) G (DistI w D W1.heap.size R.length) (pre ++ [x]) W .normal { tmps := #[], defers := [] } (W.setCell ⟨D, x.1, none⟩ (.int .i64 (x.2 : Int)))) := by
      have hk : Kept (fun k => k = D) W (W.setCell ⟨D, x.1, none⟩ (.int .i64 (x.2 : Int))) := (Kept.refl (fun k => k = D) W).setCell (p := ⟨D, x.1, none⟩) (.inl rfl) _
      refine ⟨(KeepsOthers.setCell _ _ _).from _, KeepB.of_kept hk ?_, ⟨?_, ?_, hI.gd, hI.gv, hI.b.trans (hk.below (by rintro k rfl; omega) hI.b.size), hI.g⟩⟩
      · rintro k h _ rfl
        rcases h with (h | h | h | h) | h
        · have := hSl _ h; omega
        · omega
        · omega
        · omega
        · exact hI.gd h
      · rw [lay_snoc, ← ic_set]
        exact heap_setCell_same W D x.1 _ 3 _ hI.d
      · exact (hk.block _ (blk_lt hI.v) (by omega)).trans hI.v
    obtain ⟨x1, x2⟩ := x
    simp only at *
    clear hI hll hl hpre
    gi_wp2
    exact HQ.out
  case done =>
    rintro D' G W hD' _ hI hK
    have c5 : W.cell? ⟨W1.heap.size, 0, none⟩ = some (.slice (some ⟨D, 0, none⟩) n n) := by rw [blk_cell hI.v, ← HN.out]; rfl
    have HQ : Hid (NewL w (distL R a) (.returned (.slice (some ⟨D, 0, none⟩) n n)) (W.putObj D' (.deferred none))) := by
      have hI2 := (DistI.own (w := w) (D := D) (p := W1.heap.size) (n := R.length) (base := W0.heap.size) (by omega) G).putObj (.deferred none) hI hD' hK rfl
      refine ⟨D, n, rfl, ?_, hI2.d, hDw', hI2.b⟩
      unfold distL
      rw [lay_length, List.length_replicate, HN.out]
    clear hI
    gi_wp2
    refine ⟨by simp, .inl ⟨_, _, rfl, run_takeDeferred hK, ?_⟩⟩
    exact ⟨_, results_tmp (t := 4) rfl _ _ _, HQ.out⟩
end Go.Proofs.Ytlcadkhhpnaofaa
