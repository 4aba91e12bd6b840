/-
  Where in a queue a waiter stands that is looked for.
-/
import Derived.Test.YtlmbbnkdiokabaaDoorSp1
namespace Go.Proofs.YtlmbbnkdiokabaaDoor
set_option maxRecDepth 100000
set_option linter.unusedSimpArgs false
open Go Go.RowKit Sp
attribute [local go_sem] Oper.semAt_some

/-- Behind which place the last one stood. -/
def atV (pre : List (Nat × Wt)) : Int := match pre.getLast? with | none => 0 | some x => ((x.1 % 8 : Nat) : Int) + 1
theorem atV_snoc (pre : List (Nat × Wt)) (x : Nat × Wt) : atV (pre ++ [x]) = ((x.1 % 8 : Nat) : Int) + 1 := by simp [atV]
theorem atV_tel {l : List Wt} {pre : List (Nat × Wt)} (h : pre <+: tel l) (hl : l.length ≤ 8) : atV pre = (pre.length : Int) := by
  rcases List.eq_nil_or_concat pre with rfl | ⟨q, x, rfl⟩
  · rfl
  · rw [List.concat_eq_append] at *
    have h1 := h.length_le
    rw [tel_length, List.length_append, List.length_singleton] at h1
    have h2 : (q ++ [x])[q.length]? = (tel l)[q.length]? := by
      obtain ⟨t, ht⟩ := h
      rw [← ht]
      exact (List.getElem?_append_left (by simp)).symm
    have h3 : (tel l)[q.length]? = some (q.length, l.getD q.length w0) := by
      rw [tel, List.getElem?_map, List.getElem?_range (by omega)]; rfl
    rw [h3, List.getElem?_append_right (Nat.le_refl _), Nat.sub_self] at h2
    have h4 : x = (q.length, l.getD q.length w0) := by simpa using h2
    rw [atV_snoc, h4]
    simp only [List.length_append, List.length_singleton]
    rw [Nat.mod_eq_of_lt (by omega)]; push_cast; rfl
theorem tel_get {l : List Wt} {j : Nat} (hj : j < l.length) : (tel l)[j]? = some (j, l.getD j w0) := by
  rw [tel, List.getElem?_map, List.getElem?_range hj]; rfl
/-- What place answers. -/
def plI (f : Wt → Bool) (l : List Wt) : Nat := l.findIdx f
def plB (f : Wt → Bool) (l : List Wt) : Bool := decide (l.findIdx f < l.length)
theorem pl_none {f : Wt → Bool} {l : List Wt} {xs : List (Nat × Wt)} (hS : xs = tel l) (h : ∀ x ∈ xs, f x.2 = false) : plI f l = xs.length ∧ plB f l = false := by
  have h1 : l.findIdx f = l.length := by
    rw [List.findIdx_eq_length]
    intro x hx
    obtain ⟨i, hi, rfl⟩ := List.getElem_of_mem hx
    have := h (i, l.getD i w0) (by rw [hS]; exact List.mem_map.2 ⟨i, List.mem_range.2 hi, rfl⟩)
    simpa [List.getD, hi] using this
  subst hS
  rw [tel_length]
  exact ⟨h1, by simp [plB, h1]⟩
theorem pl_hit {f : Wt → Bool} {l : List Wt} {pre : List (Nat × Wt)} {x : Nat × Wt} (hS : pre ++ [x] <+: tel l) (h : ∀ y ∈ pre, f y.2 = false) (hx : f x.2 = true) : plI f l = pre.length ∧ plB f l = true := by
  have hlen := hS.length_le
  rw [tel_length, List.length_append, List.length_singleton] at hlen
  have hg : ∀ i, i < pre.length + 1 → (pre ++ [x])[i]? = some (i, l.getD i w0) := by
    intro i hi
    obtain ⟨t, ht⟩ := hS
    have : (tel l)[i]? = some (i, l.getD i w0) := tel_get (by omega)
    rw [← ht, List.getElem?_append_left (by simpa using hi)] at this
    exact this
  have h1 : l.findIdx f = pre.length := by
    have hp : pre.length < l.length := by omega
    have hl := hg pre.length (by omega)
    rw [List.getElem?_append_right (Nat.le_refl _), Nat.sub_self] at hl
    have h2 : x = (pre.length, l.getD pre.length w0) := by simpa using hl
    rw [List.findIdx_eq hp]
    refine ⟨?_, fun j hj => ?_⟩
    · rw [h2] at hx; simpa [List.getD, hp] using hx
    · have h3 := hg j (by omega)
      rw [List.getElem?_append_left hj] at h3
      have := h _ (List.mem_of_getElem? h3)
      simpa [List.getD, show j < l.length by omega] using this
  exact ⟨h1, by simp [plB, h1]; omega⟩

/-- Between two rounds. -/
def PlI (w : World) (lk : Value) (at_ : Int) (th : Bool) (W : World) : Prop :=
  Below w.heap.size w W ∧ W.heap[w.heap.size]? = some (.cells #[lk] 147 (0, 0)) ∧ W.heap[w.heap.size + 1]? = some (.cells #[.int .i64 at_] 3 (0, 0)) ∧ W.heap[w.heap.size + 1 + 1]? = some (.cells #[.bool th] 4 (0, 0))
theorem PlI.grown {w W W' : World} {lk : Value} {at_ : Int} {th : Bool} {B : Nat} {row : Option Nat} (h : PlI w lk at_ th W) (hB : w.heap.size + 2 < B) (hg : W.grownBy W' row) (hr : ∀ r, row = some r → B ≤ r) : PlI w lk at_ th W' := by
  obtain ⟨a1, a2, a3, a4⟩ := h
  have hne : ∀ k, k < B → some k ≠ row := fun k hk e => by have := hr k e.symm; omega
  exact ⟨a1.grown hg a1.size (fun k e => by have := hr k e; omega), (hg.block _ (blk_lt a2) (hne _ (by omega))).trans a2, (hg.block _ (blk_lt a3) (hne _ (by omega))).trans a3, (hg.block _ (blk_lt a4) (hne _ (by omega))).trans a4⟩
theorem PlI.below {w W W' : World} {lk : Value} {at_ : Int} {th : Bool} (h : PlI w lk at_ th W) (hg : Below W.heap.size W W') : PlI w lk at_ th W' := by
  obtain ⟨a1, a2, a3, a4⟩ := h
  exact ⟨a1.trans (hg.mono a1.size), (hg.block _ (blk_lt a2)).trans a2, (hg.block _ (blk_lt a3)).trans a3, (hg.block _ (blk_lt a4)).trans a4⟩
def PlN (w W0 : World) (lk : Value) (f : Wt → Bool) (pre : List (Nat × Wt)) (W : World) : Prop := PlI w lk (atV pre) false W ∧ (∀ x ∈ pre, f x.2 = false) ∧ W0.heap.size ≤ W.heap.size
def PlX (w : World) (lk : Value) (f : Wt → Bool) (c : Code) (pre : List (Nat × Wt)) (W : World) : Prop := c = .exit 0 ∧ ∃ (pre' : List (Nat × Wt)) (x : Nat × Wt), pre = pre' ++ [x] ∧ (∀ y ∈ pre', f y.2 = false) ∧ f x.2 = true ∧ PlI w lk (atV pre') true W

set_option maxHeartbeats 4000000 in
theorem place_of {w : World} {p : Option Addr} {l : List Wt} (h : QP w p l) {kb : Nat} {r : Int} (hkb : w.heap[kb]? = some (.cells #[.int .i64 r] 3 (0, 0))) :
    Calls Tryd.prog 73 #[.pointer p, .func (.func 81) #[] #[.pointer (some ⟨kb, 0, none⟩)]] w fun e w' => e = .returned (.tuple #[.int .i64 (plI (fun x => x.r == r) l : Nat), .bool (plB (fun x => x.r == r) l)]) ∧ Below w.heap.size w w' := by
  have hol : ∀ k, OfP p k → k < w.heap.size := fun k hk => h.lt hk
  have hkl := blk_lt hkb
  obtain ⟨f, hf⟩ : ∃ f : Wt → Bool, f = (fun x => x.r == r) := ⟨_, rfl⟩
  obtain ⟨lk, hlk⟩ : ∃ lk : Value, lk = .func (.func 81) #[] #[.pointer (some ⟨kb, 0, none⟩)] := ⟨_, rfl⟩
  rw [← hf, ← hlk]
  have HC : Hid (∀ V x, Below w.heap.size w V → Calls Tryd.prog 81 #[wv x, .pointer (some ⟨kb, 0, none⟩)] V fun e w' => e = .returned (.bool (f x)) ∧ Below V.heap.size V w') := by
    intro V x hV
    rw [hf]
    exact of1_any ((hV.block kb hkl).trans hkb) x
  clear hf hkb
  obtain ⟨P, hP⟩ : ∃ P : Ending → World → Prop, P = fun e w' => e = .returned (.tuple #[.int .i64 (plI f l : Nat), .bool (plB f l)]) ∧ Below w.heap.size w w' := ⟨_, rfl⟩
  have HP : Hid (∀ (i : Int) (t : Bool) w', (plI f l : Int) = i → plB f l = t → Below w.heap.size w w' → P (.returned (.tuple #[.int .i64 i, .bool t])) w') := by
    rw [hP]; intro i t w' h1 h2 h3; exact ⟨by rw [h1, h2], h3⟩
  rw [← hP]
  clear hP
  have hl8 := h.len8
  have HQ := Lib.hid h
  clear h
  subst hlk
  refine (callsIn_wide (n := 9)).1 ?_
  refine callsIn_of_wp_marks Tryd.func73 rfl trivial ?_ rfl
  simp only [Tryd.ntmps73, List.size_toArray, List.length_cons, List.length_nil, Nat.reduceAdd, Nat.reduceSub, Array.replicate_succ, Array.replicate_zero, List.push_toArray, List.append_toArray, List.nil_append, List.cons_append]
  gi_wp2_with fail
  refine wpIn_wide.2 (wp_scope_straight ((wpIn_wide (n := 9)).1 ?_))
  gi_wp2_with fail
  refine wpIn_label ?_
  gi_wp2_with fail
  refine ⟨trivial, (callsIn_wide.2 (told_any _ _)).mono ?_⟩
  rintro e w2 ⟨rfl, rfl⟩
  gi_wp2_with fail
  obtain ⟨W0, hW0⟩ : ∃ W0, (((w.alloc (.cells #[(.func (.func 81) #[] #[.pointer (some ⟨kb, 0, none⟩)])] 147)).alloc (.cells #[.int .i64 0] 3)).alloc (.cells #[.bool false] 4)).alloc (.cells #[.pointer p] 117) = W0 := ⟨_, rfl⟩
  have hz : W0.heap.size = w.heap.size + 4 := by rw [← hW0]; simp
  have hb0 : Below w.heap.size w W0 := by rw [← hW0]; exact ((((Below.refl _ w).alloc (by simp) _).alloc (by simp) _).alloc (by simp; omega) _).alloc (by simp; omega) _
  have h0 : PlI w (.func (.func 81) #[] #[.pointer (some ⟨kb, 0, none⟩)]) 0 false W0 := by
    have t1 := World.alloc_heap_new w (.cells #[(.func (.func 81) #[] #[.pointer (some ⟨kb, 0, none⟩)])] 147)
    have t2 := World.alloc_heap_new (w.alloc (.cells #[(.func (.func 81) #[] #[.pointer (some ⟨kb, 0, none⟩)])] 147)) (.cells #[.int .i64 0] 3)
    have t3 := World.alloc_heap_new ((w.alloc (.cells #[(.func (.func 81) #[] #[.pointer (some ⟨kb, 0, none⟩)])] 147)).alloc (.cells #[.int .i64 0] 3)) (.cells #[.bool false] 4)
    simp only [World.size_alloc] at t2 t3
    refine ⟨hb0, ?_, ?_, ?_⟩ <;> rw [← hW0]
    · rw [Below.heap_alloc _ _ _ (by simp; omega), Below.heap_alloc _ _ _ (by simp; omega), Below.heap_alloc _ _ _ (by simp)]; exact t1
    · rw [Below.heap_alloc _ _ _ (by simp), Below.heap_alloc _ _ _ (by simp)]; exact t2
    · rw [Below.heap_alloc _ _ _ (by simp)]; exact t3
  have hx0 : W0.cell? ⟨w.heap.size + 1 + 1 + 1, 0, none⟩ = some (.pointer p) := by
    rw [← hW0]
    have := World.alloc_heap_new (((w.alloc (.cells #[(.func (.func 81) #[] #[.pointer (some ⟨kb, 0, none⟩)])] 147)).alloc (.cells #[.int .i64 0] 3)).alloc (.cells #[.bool false] 4)) (.cells #[.pointer p] 117)
    simp only [World.size_alloc] at this
    rw [blk_cell this]; rfl
  have k0 : Kept (fun _ => False) w W0 := Kept.of_below hb0 (Nat.le_refl _)
  have hq0 := HQ.out.kept k0 (fun _ _ => id)
  rw [hW0]
  have HPI := Lib.hid h0
  have HB0 := Lib.hid hb0
  clear hW0 h0 hb0 k0
  have HZ := Lib.hid hz
  clear hz
  obtain ⟨S, hS⟩ : ∃ S : Nat → Prop, S = fun k => OfP p k ∨ k = w.heap.size + 1 + 1 + 1 := ⟨_, rfl⟩
  have HSlt : Hid (∀ k, S k → k < W0.heap.size) := by
    intro k hk
    rw [hS] at hk
    have := HZ.out
    rcases hk with hk | hk
    · have := hol k hk; omega
    · omega
  have HSne : Hid (∀ k, S k → k ≠ w.heap.size + 1 ∧ k ≠ w.heap.size + 1 + 1) := by
    intro k hk
    rw [hS] at hk
    rcases hk with hk | hk
    · have := hol k hk; omega
    · omega
  have hSq : ∀ k, OfP p k ∨ k = w.heap.size + 1 + 1 + 1 → S k := fun k hk => by rw [hS]; exact hk
  clear hS
  -- what is done behind the loop
  have HEND : Hid (∀ (D : Nat) (i : Int) (t : Bool) (W : World), W0.heap.size ≤ D → (plI f l : Int) = i → plB f l = t → PlI w (.func (.func 81) #[] #[.pointer (some ⟨kb, 0, none⟩)]) i t W → W.heap[D]? = some (.deferred (some [])) → ∃ W2, ((W.setCell ⟨w.heap.size + 1, 0, none⟩ (.int .i64 i)).setCell ⟨w.heap.size + 1 + 1, 0, none⟩ (.bool t)).drew = W2 ∧ W2.heap[D]? = some (.deferred (some [])) ∧ (W2.putObj D (.deferred none)).cell? ⟨w.heap.size + 1, 0, none⟩ = some (.int .i64 i) ∧ (W2.putObj D (.deferred none)).cell? ⟨w.heap.size + 1 + 1, 0, none⟩ = some (.bool t) ∧ P (.returned (.tuple #[.int .i64 i, .bool t])) (W2.putObj D (.deferred none))) := by
    intro D i t W hD h1 h1' h2 h3
    have hz := HZ.out
    obtain ⟨a1, a2, a3, a4⟩ := h2
    have b3 : ((W.setCell ⟨w.heap.size + 1, 0, none⟩ (.int .i64 i)).setCell ⟨w.heap.size + 1 + 1, 0, none⟩ (.bool t)).heap[w.heap.size + 1]? = some (.cells #[.int .i64 i] 3 (0, 0)) := by
      rw [Below.heap_setCell _ _ _ _ (by simp), blk_set a3]; rfl
    have b4 : ((W.setCell ⟨w.heap.size + 1, 0, none⟩ (.int .i64 i)).setCell ⟨w.heap.size + 1 + 1, 0, none⟩ (.bool t)).heap[w.heap.size + 1 + 1]? = some (.cells #[.bool t] 4 (0, 0)) := by
      rw [blk_set (cur := #[.bool t]) (e := 4) (m := (0, 0))]
      · rfl
      · rw [Below.heap_setCell _ _ _ _ (by simp)]; exact a4
    have b5 : ((W.setCell ⟨w.heap.size + 1, 0, none⟩ (.int .i64 i)).setCell ⟨w.heap.size + 1 + 1, 0, none⟩ (.bool t)).heap[D]? = some (.deferred (some [])) := by
      rw [Below.heap_setCell _ _ _ _ (by simp; omega), Below.heap_setCell _ _ _ _ (by simp; omega)]; exact h3
    have b6 : Below w.heap.size w ((W.setCell ⟨w.heap.size + 1, 0, none⟩ (.int .i64 i)).setCell ⟨w.heap.size + 1 + 1, 0, none⟩ (.bool t)) :=
      (a1.setCell (p := ⟨w.heap.size + 1, 0, none⟩) (by simp) _).setCell (p := ⟨w.heap.size + 1 + 1, 0, none⟩) (by simp; omega) _
    refine ⟨_, rfl, b5, ?_, ?_, HP.out i t _ h1 h1' ?_⟩
    · rw [World.cell?_of_block (a := ⟨w.heap.size + 1, 0, none⟩) (World.putObj_heap_other (by simp; omega))]
      show World.cell? _ _ = _
      exact (blk_cell b3 0).trans rfl
    · rw [World.cell?_of_block (a := ⟨w.heap.size + 1 + 1, 0, none⟩) (World.putObj_heap_other (by simp; omega))]
      exact (blk_cell b4 0).trans rfl
    · refine ⟨b6.os, b6.tape, b6.output, by simpa [World.putObj] using b6.size, fun k hk => ?_⟩
      exact (World.putObj_heap_other (by omega)).trans (b6.block k hk)
  refine wpIn_rangeFunc_ownH rfl (by omega) (gf := 80) (lb := #[.pointer (some ⟨w.heap.size + 1 + 1 + 1, 0, none⟩)]) rfl trivial (enters_of Tryd.func80 (by kernel_rfl) rfl)
    (told_stops (9 - 1) (by omega) hq0 hx0 hSq HSlt.out) (fun h k => h.trans k) ?hKb (Below.refl _ _) (fun _ => rfl)
    (PlN w W0 (.func (.func 81) #[] #[.pointer (some ⟨kb, 0, none⟩)]) f) (PlX w (.func (.func 81) #[] #[.pointer (some ⟨kb, 0, none⟩)]) f) ?hI ?hIx ⟨HPI.out, (fun x h => absurd h (List.not_mem_nil)), Nat.le_refl _⟩
    (fun x a' W => ∃ bk, W0.heap.size ≤ bk ∧ W.heap[bk]? = some (.cells #[.int .i64 x.2.r, .int .u64 x.2.s, .int .i64 x.2.p] 71 (0, 0)) ∧ a' = { tmps := #[.pointer p, (.func (.func 81) #[] #[.pointer (some ⟨kb, 0, none⟩)]), undef, .pointer (some ⟨w.heap.size, 0, none⟩), .pointer (some ⟨w.heap.size + 1, 0, none⟩), .pointer (some ⟨w.heap.size + 1 + 1, 0, none⟩), .int .i64 ((x.1 % 8 : Nat) : Int), .pointer (some ⟨bk, 0, none⟩), .pointer p, .func (.func 80) #[] #[.pointer (some ⟨w.heap.size + 1 + 1 + 1, 0, none⟩)], .int .i64 ((x.1 % 8 : Nat) : Int), wv x.2, undef, undef, undef, undef, undef, undef, undef, undef], defers := [] })
    ?hAx ?assign ?body ?done ?stop
  case hKb =>
    intro W l' o1 o' hl1 hl2 _ _ k hk
    refine World.putObj_heap_other ?_
    have := HSlt.out k hk
    omega
  case hI =>
    rintro pre W W' row ⟨h1, h2, h3⟩ hg hr
    exact ⟨h1.grown (B := W0.heap.size) (by have := HZ.out; omega) hg (fun r e => (hr r e).1), h2, Nat.le_trans h3 hg.size⟩
  case hIx =>
    rintro c pre W W' row ⟨h1, pre', x, h2, h3, h4, h5⟩ hg hr
    exact ⟨h1, pre', x, h2, h3, h4, h5.grown (B := W0.heap.size) (by have := HZ.out; omega) hg (fun r e => (hr r e).1)⟩
  case hAx =>
    rintro x a' _ W W' row ⟨bk, h1, h2, h3⟩ hg hr
    refine ⟨bk, h1, (hg.block bk (blk_lt h2) (fun e => ?_)).trans h2, h3⟩
    obtain ⟨_, o1, h4, h5⟩ := hr bk e.symm
    rw [h2] at h4
    cases h4
    cases h5
  case assign =>
    rintro l' pre x W K ⟨hI, hpre, hsz⟩ hK
    obtain ⟨i, ⟨r1, s1, p1⟩⟩ := x
    simp only [enW, wv]
    generalize i % 8 = i8 at *
    gi_wp2
    refine hK _ _ (KeepsOthers.from ⟨by simp, fun k o hk _ => (Below.heap_alloc _ _ _ (blk_lt hk)).trans hk⟩ _) ?_ ⟨?_, hpre, by simp; omega⟩ ⟨W.heap.size, hsz, World.alloc_heap_new _ _, rfl⟩
    · intro k hk
      refine Below.heap_alloc _ _ _ ?_
      have := HSlt.out k hk
      omega
    · exact hI.below ((Below.refl _ W).alloc (Nat.le_refl _) _)
  case body =>
    rintro l' pre x a' W hl1 _ ⟨hI, hpre, hsz⟩ ⟨bk, hbk, hbx, rfl⟩ hlen
    have q0 : W.cell? ⟨bk, 0, none⟩ = some (.int .i64 x.2.r) := by rw [blk_cell hbx]; rfl
    have q1 : W.cell? ⟨bk, 1, none⟩ = some (.int .u64 x.2.s) := by rw [blk_cell hbx]; rfl
    have q2 : W.cell? ⟨bk, 2, none⟩ = some (.int .i64 x.2.p) := by rw [blk_cell hbx]; rfl
    have q3 : W.cell? ⟨w.heap.size, 0, none⟩ = some (.func (.func 81) #[] #[.pointer (some ⟨kb, 0, none⟩)]) := by rw [blk_cell hI.2.1]; rfl
    clear hbx
    have HCW := Lib.hid (HC.out W x.2 hI.1)
    have HV : Hid (∀ V, Below W.heap.size W V → V.cell? ⟨w.heap.size + 1, 0, none⟩ = some (.int .i64 (atV pre)) ∧ V.frozen? ⟨w.heap.size + 1, 0, none⟩ = false ∧ V.cell? ⟨w.heap.size + 1 + 1, 0, none⟩ = some (.bool false) ∧ V.frozen? ⟨w.heap.size + 1 + 1, 0, none⟩ = false) := by
      intro V hV
      have hI2 := hI.below hV
      exact ⟨by rw [blk_cell hI2.2.2.1]; rfl, blk_free hI2.2.2.1 0, by rw [blk_cell hI2.2.2.2]; rfl, blk_free hI2.2.2.2 0⟩
    have HN : Hid (f x.2 = false → ∀ V W', Below W.heap.size W V → W' = (V.setCell ⟨w.heap.size + 1 + 1, 0, none⟩ (.bool false)).setCell ⟨w.heap.size + 1, 0, none⟩ (.int .i64 (((x.1 % 8 : Nat) : Int) + 1)) → KeepsFrom W0.heap.size W W' ∧ KpT S W W' ∧ PlN w W0 (.func (.func 81) #[] #[.pointer (some ⟨kb, 0, none⟩)]) f (pre ++ [x]) W') := fun h V W' hV hW' => by
      subst hW'
      have hz := HZ.out
      obtain ⟨a1, a2, a3, a4⟩ := hI.below hV
      refine ⟨⟨by have := hV.size; simpa using this, fun k o hk ho _ => ?_⟩, fun k hk => ?_, ⟨(a1.setCell (p := ⟨w.heap.size + 1 + 1, 0, none⟩) (by simp; omega) _).setCell (p := ⟨w.heap.size + 1, 0, none⟩) (by simp) _, ?_, ?_, ?_⟩, fun y hy => ?_, by have := hV.size; simp; omega⟩
      · rw [Below.heap_setCell _ _ _ _ (by simp; omega), Below.heap_setCell _ _ _ _ (by simp; omega)]; exact (hV.block k (blk_lt ho)).trans ho
      · have h1 := HSlt.out k hk
        have h2 := HSne.out k hk
        rw [Below.heap_setCell _ _ _ _ (by simpa using h2.1), Below.heap_setCell _ _ _ _ (by simpa using h2.2)]; exact hV.block k (by omega)
      · rw [Below.heap_setCell _ _ _ _ (by simp), Below.heap_setCell _ _ _ _ (by simp; omega)]; exact a2
      · rw [blk_set (cur := #[.int .i64 (atV pre)]) (e := 3) (m := (0, 0))]
        · rw [atV_snoc]; rfl
        · rw [Below.heap_setCell _ _ _ _ (by simp)]; exact a3
      · rw [Below.heap_setCell _ _ _ _ (by simp), blk_set a4]; rfl
      · rcases List.mem_append.1 hy with hy | hy
        · exact hpre y hy
        · rw [List.mem_singleton] at hy; subst hy; exact h
    have HX : Hid (f x.2 = true → ∀ V W', Below W.heap.size W V → W' = V.setCell ⟨w.heap.size + 1 + 1, 0, none⟩ (.bool true) → KeepsFrom W0.heap.size W W' ∧ PlX w (.func (.func 81) #[] #[.pointer (some ⟨kb, 0, none⟩)]) f (.exit 0) (pre ++ [x]) W') := fun h V W' hV hW' => by
      subst hW'
      have hz := HZ.out
      obtain ⟨a1, a2, a3, a4⟩ := hI.below hV
      refine ⟨⟨by have := hV.size; simpa using this, fun k o hk ho _ => ?_⟩, rfl, pre, x, rfl, hpre, h, a1.setCell (p := ⟨w.heap.size + 1 + 1, 0, none⟩) (by simp; omega) _, ?_, ?_, ?_⟩
      · rw [Below.heap_setCell _ _ _ _ (by simp; omega)]; exact (hV.block k (blk_lt ho)).trans ho
      · rw [Below.heap_setCell _ _ _ _ (by simp; omega)]; exact a2
      · rw [Below.heap_setCell _ _ _ _ (by simp)]; exact a3
      · rw [blk_set a4]; rfl
    have h8 : x.1 % 8 < 8 := Nat.mod_lt _ (by omega)
    clear hI hpre
    generalize pre ++ [x] = pre2 at *
    generalize x.1 % 8 = j at *
    simp only [wv] at HCW ⊢
    gi_wp2_with fail
    refine ⟨trivial, (CallsIn.inRound l' (callsIn_wide.2 HCW.out)).mono ?_⟩
    rintro e V ⟨rfl, hV⟩
    obtain ⟨c1, c2, c3, c4⟩ := HV.out V hV
    by_cases hn : f x.2 = true
    · have HX2 := Lib.hid (HX.out hn V _ hV rfl)
      rw [hn]
      clear hV
      gi_wp2
      exact HX2.out
    · have hn' : f x.2 = false := by simpa using hn
      have HN2 := Lib.hid (HN.out hn' V _ hV rfl)
      rw [hn']
      clear hV
      gi_wp2
      exact HN2.out
  case done =>
    rintro D xs W hD hS ⟨h1, h2, _⟩ hK
    obtain ⟨e1, e2⟩ := pl_none hS h2
    have e3 := atV_tel (by rw [hS]; exact List.prefix_refl _ : xs <+: tel l) hl8
    have HE := Lib.hid (HEND.out D (atV xs) false W hD (by rw [e1, e3]) e2 h1 hK)
    have q2 : W.cell? ⟨w.heap.size + 1, 0, none⟩ = some (.int .i64 (atV xs)) := by rw [blk_cell h1.2.2.1]; rfl
    have q3 : W.cell? ⟨w.heap.size + 1 + 1, 0, none⟩ = some (.bool false) := by rw [blk_cell h1.2.2.2]; rfl
    have q4 := blk_free h1.2.2.1 0
    have q5 := blk_free h1.2.2.2 0
    clear h1 h2 hS hK e1 e2 e3
    generalize atV xs = av at *
    gi_wp2
    gi_region
    gi_wp2
    rw [Exit.noGoto_ret]
    obtain ⟨W2, hW2, t1, t2, t3, t4⟩ := HE.out
    rw [hW2]
    refine ⟨by simp, .inl ⟨_, _, rfl, run_takeDeferred t1, ?_⟩⟩
    exact ⟨_, by simp [results, Tryd.results73, go_sem, t2, t3], t4⟩
  case stop =>
    rintro D c pre W hD hS ⟨rfl, pre', x, rfl, h2, h3, h4⟩ hK
    obtain ⟨e1, e2⟩ := pl_hit hS h2 h3
    have e3 := atV_tel ((List.prefix_append _ _).trans hS) hl8
    have HE := Lib.hid (HEND.out D (atV pre') true W hD (by rw [e1, e3]) e2 h4 hK)
    have q2 : W.cell? ⟨w.heap.size + 1, 0, none⟩ = some (.int .i64 (atV pre')) := by rw [blk_cell h4.2.2.1]; rfl
    have q3 : W.cell? ⟨w.heap.size + 1 + 1, 0, none⟩ = some (.bool true) := by rw [blk_cell h4.2.2.2]; rfl
    have q4 := blk_free h4.2.2.1 0
    have q5 := blk_free h4.2.2.2 0
    clear h4 h2 h3 hS hK e1 e2 e3
    generalize atV pre' = av at *
    gi_wp2
    gi_region
    gi_wp2
    rw [Exit.noGoto_ret]
    obtain ⟨W2, hW2, t1, t2, t3, t4⟩ := HE.out
    rw [hW2]
    refine ⟨by simp, .inl ⟨_, _, rfl, run_takeDeferred t1, ?_⟩⟩
    exact ⟨_, by simp [results, Tryd.results73, go_sem, t2, t3], t4⟩

set_option maxHeartbeats 4000000 in
theorem place_ins {w : World} {p : Option Addr} {l : List Wt} (h : QP w p l) {kb : Nat} {y : Wt} (hkb : w.heap[kb]? = some (.cells #[.int .i64 y.r, .int .u64 y.s, .int .i64 y.p] 71 (0, 0))) :
    Calls Tryd.prog 73 #[.pointer p, .func (.func 82) #[] #[.pointer (some ⟨kb, 0, none⟩)]] w fun e w' => e = .returned (.tuple #[.int .i64 (plI (fore y) l : Nat), .bool (plB (fore y) l)]) ∧ Below w.heap.size w w' := by
  have hol : ∀ k, OfP p k → k < w.heap.size := fun k hk => h.lt hk
  have hkl := blk_lt hkb
  obtain ⟨f, hf⟩ : ∃ f : Wt → Bool, f = (fore y) := ⟨_, rfl⟩
  obtain ⟨lk, hlk⟩ : ∃ lk : Value, lk = .func (.func 82) #[] #[.pointer (some ⟨kb, 0, none⟩)] := ⟨_, rfl⟩
  rw [← hf, ← hlk]
  have HC : Hid (∀ V x, Below w.heap.size w V → Calls Tryd.prog 82 #[wv x, .pointer (some ⟨kb, 0, none⟩)] V fun e w' => e = .returned (.bool (f x)) ∧ Below V.heap.size V w') := by
    intro V x hV
    rw [hf]
    exact ins1_any ((hV.block kb hkl).trans hkb) x
  clear hf hkb
  obtain ⟨P, hP⟩ : ∃ P : Ending → World → Prop, P = fun e w' => e = .returned (.tuple #[.int .i64 (plI f l : Nat), .bool (plB f l)]) ∧ Below w.heap.size w w' := ⟨_, rfl⟩
  have HP : Hid (∀ (i : Int) (t : Bool) w', (plI f l : Int) = i → plB f l = t → Below w.heap.size w w' → P (.returned (.tuple #[.int .i64 i, .bool t])) w') := by
    rw [hP]; intro i t w' h1 h2 h3; exact ⟨by rw [h1, h2], h3⟩
  rw [← hP]
  clear hP
  have hl8 := h.len8
  have HQ := Lib.hid h
  clear h
  subst hlk
  refine (callsIn_wide (n := 9)).1 ?_
  refine callsIn_of_wp_marks Tryd.func73 rfl trivial ?_ rfl
  simp only [Tryd.ntmps73, List.size_toArray, List.length_cons, List.length_nil, Nat.reduceAdd, Nat.reduceSub, Array.replicate_succ, Array.replicate_zero, List.push_toArray, List.append_toArray, List.nil_append, List.cons_append]
  gi_wp2_with fail
  refine wpIn_wide.2 (wp_scope_straight ((wpIn_wide (n := 9)).1 ?_))
  gi_wp2_with fail
  refine wpIn_label ?_
  gi_wp2_with fail
  refine ⟨trivial, (callsIn_wide.2 (told_any _ _)).mono ?_⟩
  rintro e w2 ⟨rfl, rfl⟩
  gi_wp2_with fail
  obtain ⟨W0, hW0⟩ : ∃ W0, (((w.alloc (.cells #[(.func (.func 82) #[] #[.pointer (some ⟨kb, 0, none⟩)])] 147)).alloc (.cells #[.int .i64 0] 3)).alloc (.cells #[.bool false] 4)).alloc (.cells #[.pointer p] 117) = W0 := ⟨_, rfl⟩
  have hz : W0.heap.size = w.heap.size + 4 := by rw [← hW0]; simp
  have hb0 : Below w.heap.size w W0 := by rw [← hW0]; exact ((((Below.refl _ w).alloc (by simp) _).alloc (by simp) _).alloc (by simp; omega) _).alloc (by simp; omega) _
  have h0 : PlI w (.func (.func 82) #[] #[.pointer (some ⟨kb, 0, none⟩)]) 0 false W0 := by
    have t1 := World.alloc_heap_new w (.cells #[(.func (.func 82) #[] #[.pointer (some ⟨kb, 0, none⟩)])] 147)
    have t2 := World.alloc_heap_new (w.alloc (.cells #[(.func (.func 82) #[] #[.pointer (some ⟨kb, 0, none⟩)])] 147)) (.cells #[.int .i64 0] 3)
    have t3 := World.alloc_heap_new ((w.alloc (.cells #[(.func (.func 82) #[] #[.pointer (some ⟨kb, 0, none⟩)])] 147)).alloc (.cells #[.int .i64 0] 3)) (.cells #[.bool false] 4)
    simp only [World.size_alloc] at t2 t3
    refine ⟨hb0, ?_, ?_, ?_⟩ <;> rw [← hW0]
    · rw [Below.heap_alloc _ _ _ (by simp; omega), Below.heap_alloc _ _ _ (by simp; omega), Below.heap_alloc _ _ _ (by simp)]; exact t1
    · rw [Below.heap_alloc _ _ _ (by simp), Below.heap_alloc _ _ _ (by simp)]; exact t2
    · rw [Below.heap_alloc _ _ _ (by simp)]; exact t3
  have hx0 : W0.cell? ⟨w.heap.size + 1 + 1 + 1, 0, none⟩ = some (.pointer p) := by
    rw [← hW0]
    have := World.alloc_heap_new (((w.alloc (.cells #[(.func (.func 82) #[] #[.pointer (some ⟨kb, 0, none⟩)])] 147)).alloc (.cells #[.int .i64 0] 3)).alloc (.cells #[.bool false] 4)) (.cells #[.pointer p] 117)
    simp only [World.size_alloc] at this
    rw [blk_cell this]; rfl
  have k0 : Kept (fun _ => False) w W0 := Kept.of_below hb0 (Nat.le_refl _)
  have hq0 := HQ.out.kept k0 (fun _ _ => id)
  rw [hW0]
  have HPI := Lib.hid h0
  have HB0 := Lib.hid hb0
  clear hW0 h0 hb0 k0
  have HZ := Lib.hid hz
  clear hz
  obtain ⟨S, hS⟩ : ∃ S : Nat → Prop, S = fun k => OfP p k ∨ k = w.heap.size + 1 + 1 + 1 := ⟨_, rfl⟩
  have HSlt : Hid (∀ k, S k → k < W0.heap.size) := by
    intro k hk
    rw [hS] at hk
    have := HZ.out
    rcases hk with hk | hk
    · have := hol k hk; omega
    · omega
  have HSne : Hid (∀ k, S k → k ≠ w.heap.size + 1 ∧ k ≠ w.heap.size + 1 + 1) := by
    intro k hk
    rw [hS] at hk
    rcases hk with hk | hk
    · have := hol k hk; omega
    · omega
  have hSq : ∀ k, OfP p k ∨ k = w.heap.size + 1 + 1 + 1 → S k := fun k hk => by rw [hS]; exact hk
  clear hS
  -- what is done behind the loop
  have HEND : Hid (∀ (D : Nat) (i : Int) (t : Bool) (W : World), W0.heap.size ≤ D → (plI f l : Int) = i → plB f l = t → PlI w (.func (.func 82) #[] #[.pointer (some ⟨kb, 0, none⟩)]) i t W → W.heap[D]? = some (.deferred (some [])) → ∃ W2, ((W.setCell ⟨w.heap.size + 1, 0, none⟩ (.int .i64 i)).setCell ⟨w.heap.size + 1 + 1, 0, none⟩ (.bool t)).drew = W2 ∧ W2.heap[D]? = some (.deferred (some [])) ∧ (W2.putObj D (.deferred none)).cell? ⟨w.heap.size + 1, 0, none⟩ = some (.int .i64 i) ∧ (W2.putObj D (.deferred none)).cell? ⟨w.heap.size + 1 + 1, 0, none⟩ = some (.bool t) ∧ P (.returned (.tuple #[.int .i64 i, .bool t])) (W2.putObj D (.deferred none))) := by
    intro D i t W hD h1 h1' h2 h3
    have hz := HZ.out
    obtain ⟨a1, a2, a3, a4⟩ := h2
    have b3 : ((W.setCell ⟨w.heap.size + 1, 0, none⟩ (.int .i64 i)).setCell ⟨w.heap.size + 1 + 1, 0, none⟩ (.bool t)).heap[w.heap.size + 1]? = some (.cells #[.int .i64 i] 3 (0, 0)) := by
      rw [Below.heap_setCell _ _ _ _ (by simp), blk_set a3]; rfl
    have b4 : ((W.setCell ⟨w.heap.size + 1, 0, none⟩ (.int .i64 i)).setCell ⟨w.heap.size + 1 + 1, 0, none⟩ (.bool t)).heap[w.heap.size + 1 + 1]? = some (.cells #[.bool t] 4 (0, 0)) := by
      rw [blk_set (cur := #[.bool t]) (e := 4) (m := (0, 0))]
      · rfl
      · rw [Below.heap_setCell _ _ _ _ (by simp)]; exact a4
    have b5 : ((W.setCell ⟨w.heap.size + 1, 0, none⟩ (.int .i64 i)).setCell ⟨w.heap.size + 1 + 1, 0, none⟩ (.bool t)).heap[D]? = some (.deferred (some [])) := by
      rw [Below.heap_setCell _ _ _ _ (by simp; omega), Below.heap_setCell _ _ _ _ (by simp; omega)]; exact h3
    have b6 : Below w.heap.size w ((W.setCell ⟨w.heap.size + 1, 0, none⟩ (.int .i64 i)).setCell ⟨w.heap.size + 1 + 1, 0, none⟩ (.bool t)) :=
      (a1.setCell (p := ⟨w.heap.size + 1, 0, none⟩) (by simp) _).setCell (p := ⟨w.heap.size + 1 + 1, 0, none⟩) (by simp; omega) _
    refine ⟨_, rfl, b5, ?_, ?_, HP.out i t _ h1 h1' ?_⟩
    · rw [World.cell?_of_block (a := ⟨w.heap.size + 1, 0, none⟩) (World.putObj_heap_other (by simp; omega))]
      show World.cell? _ _ = _
      exact (blk_cell b3 0).trans rfl
    · rw [World.cell?_of_block (a := ⟨w.heap.size + 1 + 1, 0, none⟩) (World.putObj_heap_other (by simp; omega))]
      exact (blk_cell b4 0).trans rfl
    · refine ⟨b6.os, b6.tape, b6.output, by simpa [World.putObj] using b6.size, fun k hk => ?_⟩
      exact (World.putObj_heap_other (by omega)).trans (b6.block k hk)
  refine wpIn_rangeFunc_ownH rfl (by omega) (gf := 80) (lb := #[.pointer (some ⟨w.heap.size + 1 + 1 + 1, 0, none⟩)]) rfl trivial (enters_of Tryd.func80 (by kernel_rfl) rfl)
    (told_stops (9 - 1) (by omega) hq0 hx0 hSq HSlt.out) (fun h k => h.trans k) ?hKb (Below.refl _ _) (fun _ => rfl)
    (PlN w W0 (.func (.func 82) #[] #[.pointer (some ⟨kb, 0, none⟩)]) f) (PlX w (.func (.func 82) #[] #[.pointer (some ⟨kb, 0, none⟩)]) f) ?hI ?hIx ⟨HPI.out, (fun x h => absurd h (List.not_mem_nil)), Nat.le_refl _⟩
    (fun x a' W => ∃ bk, W0.heap.size ≤ bk ∧ W.heap[bk]? = some (.cells #[.int .i64 x.2.r, .int .u64 x.2.s, .int .i64 x.2.p] 71 (0, 0)) ∧ a' = { tmps := #[.pointer p, (.func (.func 82) #[] #[.pointer (some ⟨kb, 0, none⟩)]), undef, .pointer (some ⟨w.heap.size, 0, none⟩), .pointer (some ⟨w.heap.size + 1, 0, none⟩), .pointer (some ⟨w.heap.size + 1 + 1, 0, none⟩), .int .i64 ((x.1 % 8 : Nat) : Int), .pointer (some ⟨bk, 0, none⟩), .pointer p, .func (.func 80) #[] #[.pointer (some ⟨w.heap.size + 1 + 1 + 1, 0, none⟩)], .int .i64 ((x.1 % 8 : Nat) : Int), wv x.2, undef, undef, undef, undef, undef, undef, undef, undef], defers := [] })
    ?hAx ?assign ?body ?done ?stop
  case hKb =>
    intro W l' o1 o' hl1 hl2 _ _ k hk
    refine World.putObj_heap_other ?_
    have := HSlt.out k hk
    omega
  case hI =>
    rintro pre W W' row ⟨h1, h2, h3⟩ hg hr
    exact ⟨h1.grown (B := W0.heap.size) (by have := HZ.out; omega) hg (fun r e => (hr r e).1), h2, Nat.le_trans h3 hg.size⟩
  case hIx =>
    rintro c pre W W' row ⟨h1, pre', x, h2, h3, h4, h5⟩ hg hr
    exact ⟨h1, pre', x, h2, h3, h4, h5.grown (B := W0.heap.size) (by have := HZ.out; omega) hg (fun r e => (hr r e).1)⟩
  case hAx =>
    rintro x a' _ W W' row ⟨bk, h1, h2, h3⟩ hg hr
    refine ⟨bk, h1, (hg.block bk (blk_lt h2) (fun e => ?_)).trans h2, h3⟩
    obtain ⟨_, o1, h4, h5⟩ := hr bk e.symm
    rw [h2] at h4
    cases h4
    cases h5
  case assign =>
    rintro l' pre x W K ⟨hI, hpre, hsz⟩ hK
    obtain ⟨i, ⟨r1, s1, p1⟩⟩ := x
    simp only [enW, wv]
    generalize i % 8 = i8 at *
    gi_wp2
    refine hK _ _ (KeepsOthers.from ⟨by simp, fun k o hk _ => (Below.heap_alloc _ _ _ (blk_lt hk)).trans hk⟩ _) ?_ ⟨?_, hpre, by simp; omega⟩ ⟨W.heap.size, hsz, World.alloc_heap_new _ _, rfl⟩
    · intro k hk
      refine Below.heap_alloc _ _ _ ?_
      have := HSlt.out k hk
      omega
    · exact hI.below ((Below.refl _ W).alloc (Nat.le_refl _) _)
  case body =>
    rintro l' pre x a' W hl1 _ ⟨hI, hpre, hsz⟩ ⟨bk, hbk, hbx, rfl⟩ hlen
    have q0 : W.cell? ⟨bk, 0, none⟩ = some (.int .i64 x.2.r) := by rw [blk_cell hbx]; rfl
    have q1 : W.cell? ⟨bk, 1, none⟩ = some (.int .u64 x.2.s) := by rw [blk_cell hbx]; rfl
    have q2 : W.cell? ⟨bk, 2, none⟩ = some (.int .i64 x.2.p) := by rw [blk_cell hbx]; rfl
    have q3 : W.cell? ⟨w.heap.size, 0, none⟩ = some (.func (.func 82) #[] #[.pointer (some ⟨kb, 0, none⟩)]) := by rw [blk_cell hI.2.1]; rfl
    clear hbx
    have HCW := Lib.hid (HC.out W x.2 hI.1)
    have HV : Hid (∀ V, Below W.heap.size W V → V.cell? ⟨w.heap.size + 1, 0, none⟩ = some (.int .i64 (atV pre)) ∧ V.frozen? ⟨w.heap.size + 1, 0, none⟩ = false ∧ V.cell? ⟨w.heap.size + 1 + 1, 0, none⟩ = some (.bool false) ∧ V.frozen? ⟨w.heap.size + 1 + 1, 0, none⟩ = false) := by
      intro V hV
      have hI2 := hI.below hV
      exact ⟨by rw [blk_cell hI2.2.2.1]; rfl, blk_free hI2.2.2.1 0, by rw [blk_cell hI2.2.2.2]; rfl, blk_free hI2.2.2.2 0⟩
    have HN : Hid (f x.2 = false → ∀ V W', Below W.heap.size W V → W' = (V.setCell ⟨w.heap.size + 1 + 1, 0, none⟩ (.bool false)).setCell ⟨w.heap.size + 1, 0, none⟩ (.int .i64 (((x.1 % 8 : Nat) : Int) + 1)) → KeepsFrom W0.heap.size W W' ∧ KpT S W W' ∧ PlN w W0 (.func (.func 82) #[] #[.pointer (some ⟨kb, 0, none⟩)]) f (pre ++ [x]) W') := fun h V W' hV hW' => by
      subst hW'
      have hz := HZ.out
      obtain ⟨a1, a2, a3, a4⟩ := hI.below hV
      refine ⟨⟨by have := hV.size; simpa using this, fun k o hk ho _ => ?_⟩, fun k hk => ?_, ⟨(a1.setCell (p := ⟨w.heap.size + 1 + 1, 0, none⟩) (by simp; omega) _).setCell (p := ⟨w.heap.size + 1, 0, none⟩) (by simp) _, ?_, ?_, ?_⟩, fun y hy => ?_, by have := hV.size; simp; omega⟩
      · rw [Below.heap_setCell _ _ _ _ (by simp; omega), Below.heap_setCell _ _ _ _ (by simp; omega)]; exact (hV.block k (blk_lt ho)).trans ho
      · have h1 := HSlt.out k hk
        have h2 := HSne.out k hk
        rw [Below.heap_setCell _ _ _ _ (by simpa using h2.1), Below.heap_setCell _ _ _ _ (by simpa using h2.2)]; exact hV.block k (by omega)
      · rw [Below.heap_setCell _ _ _ _ (by simp), Below.heap_setCell _ _ _ _ (by simp; omega)]; exact a2
      · rw [blk_set (cur := #[.int .i64 (atV pre)]) (e := 3) (m := (0, 0))]
        · rw [atV_snoc]; rfl
        · rw [Below.heap_setCell _ _ _ _ (by simp)]; exact a3
      · rw [Below.heap_setCell _ _ _ _ (by simp), blk_set a4]; rfl
      · rcases List.mem_append.1 hy with hy | hy
        · exact hpre y hy
        · rw [List.mem_singleton] at hy; subst hy; exact h
    have HX : Hid (f x.2 = true → ∀ V W', Below W.heap.size W V → W' = V.setCell ⟨w.heap.size + 1 + 1, 0, none⟩ (.bool true) → KeepsFrom W0.heap.size W W' ∧ PlX w (.func (.func 82) #[] #[.pointer (some ⟨kb, 0, none⟩)]) f (.exit 0) (pre ++ [x]) W') := fun h V W' hV hW' => by
      subst hW'
      have hz := HZ.out
      obtain ⟨a1, a2, a3, a4⟩ := hI.below hV
      refine ⟨⟨by have := hV.size; simpa using this, fun k o hk ho _ => ?_⟩, rfl, pre, x, rfl, hpre, h, a1.setCell (p := ⟨w.heap.size + 1 + 1, 0, none⟩) (by simp; omega) _, ?_, ?_, ?_⟩
      · rw [Below.heap_setCell _ _ _ _ (by simp; omega)]; exact (hV.block k (blk_lt ho)).trans ho
      · rw [Below.heap_setCell _ _ _ _ (by simp; omega)]; exact a2
      · rw [Below.heap_setCell _ _ _ _ (by simp)]; exact a3
      · rw [blk_set a4]; rfl
    have h8 : x.1 % 8 < 8 := Nat.mod_lt _ (by omega)
    clear hI hpre
    generalize pre ++ [x] = pre2 at *
    generalize x.1 % 8 = j at *
    simp only [wv] at HCW ⊢
    gi_wp2_with fail
    refine ⟨trivial, (CallsIn.inRound l' (callsIn_wide.2 HCW.out)).mono ?_⟩
    rintro e V ⟨rfl, hV⟩
    obtain ⟨c1, c2, c3, c4⟩ := HV.out V hV
    by_cases hn : f x.2 = true
    · have HX2 := Lib.hid (HX.out hn V _ hV rfl)
      rw [hn]
      clear hV
      gi_wp2
      exact HX2.out
    · have hn' : f x.2 = false := by simpa using hn
      have HN2 := Lib.hid (HN.out hn' V _ hV rfl)
      rw [hn']
      clear hV
      gi_wp2
      exact HN2.out
  case done =>
    rintro D xs W hD hS ⟨h1, h2, _⟩ hK
    obtain ⟨e1, e2⟩ := pl_none hS h2
    have e3 := atV_tel (by rw [hS]; exact List.prefix_refl _ : xs <+: tel l) hl8
    have HE := Lib.hid (HEND.out D (atV xs) false W hD (by rw [e1, e3]) e2 h1 hK)
    have q2 : W.cell? ⟨w.heap.size + 1, 0, none⟩ = some (.int .i64 (atV xs)) := by rw [blk_cell h1.2.2.1]; rfl
    have q3 : W.cell? ⟨w.heap.size + 1 + 1, 0, none⟩ = some (.bool false) := by rw [blk_cell h1.2.2.2]; rfl
    have q4 := blk_free h1.2.2.1 0
    have q5 := blk_free h1.2.2.2 0
    clear h1 h2 hS hK e1 e2 e3
    generalize atV xs = av at *
    gi_wp2
    gi_region
    gi_wp2
    rw [Exit.noGoto_ret]
    obtain ⟨W2, hW2, t1, t2, t3, t4⟩ := HE.out
    rw [hW2]
    refine ⟨by simp, .inl ⟨_, _, rfl, run_takeDeferred t1, ?_⟩⟩
    exact ⟨_, by simp [results, Tryd.results73, go_sem, t2, t3], t4⟩
  case stop =>
    rintro D c pre W hD hS ⟨rfl, pre', x, rfl, h2, h3, h4⟩ hK
    obtain ⟨e1, e2⟩ := pl_hit hS h2 h3
    have e3 := atV_tel ((List.prefix_append _ _).trans hS) hl8
    have HE := Lib.hid (HEND.out D (atV pre') true W hD (by rw [e1, e3]) e2 h4 hK)
    have q2 : W.cell? ⟨w.heap.size + 1, 0, none⟩ = some (.int .i64 (atV pre')) := by rw [blk_cell h4.2.2.1]; rfl
    have q3 : W.cell? ⟨w.heap.size + 1 + 1, 0, none⟩ = some (.bool true) := by rw [blk_cell h4.2.2.2]; rfl
    have q4 := blk_free h4.2.2.1 0
    have q5 := blk_free h4.2.2.2 0
    clear h4 h2 h3 hS hK e1 e2 e3
    generalize atV pre' = av at *
    gi_wp2
    gi_region
    gi_wp2
    rw [Exit.noGoto_ret]
    obtain ⟨W2, hW2, t1, t2, t3, t4⟩ := HE.out
    rw [hW2]
    refine ⟨by simp, .inl ⟨_, _, rfl, run_takeDeferred t1, ?_⟩⟩
    exact ⟨_, by simp [results, Tryd.results73, go_sem, t2, t3], t4⟩
end Go.Proofs.YtlmbbnkdiokabaaDoor
