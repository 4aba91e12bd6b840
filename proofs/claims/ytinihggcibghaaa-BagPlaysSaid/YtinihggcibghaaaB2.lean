/-
  Where in a bag a packet stands.
-/
import Derived.Test.YtinihggcibghaaaB1
namespace Go.Proofs.Ytinihggcibghaaa
set_option maxRecDepth 100000
set_option linter.unusedSimpArgs false
open Go Go.RowKit Bg
attribute [local go_sem] Oper.semAt_some

/-- Between two rounds. -/
def PlI (w : World) (n : Int) (at_ e : Int) (W : World) : Prop :=
  Below w.heap.size w W ∧ W.heap[w.heap.size]? = some (.cells #[.int .i64 n] 3 (0, 0)) ∧ W.heap[w.heap.size + 1]? = some (.cells #[.int .i64 at_] 3 (0, 0)) ∧ W.heap[w.heap.size + 1 + 1]? = some (.cells #[.int .i64 e] 49 (0, 0))
theorem PlI.grown {w W W' : World} {n at_ e : Int} {B : Nat} {row : Option Nat} (h : PlI w n at_ e W) (hB : w.heap.size + 2 < B) (hg : W.grownBy W' row) (hr : ∀ r, row = some r → B ≤ r) : PlI w n at_ e W' := by
  obtain ⟨a1, a2, a3, a4⟩ := h
  have hne : ∀ k, k < B → some k ≠ row := fun k hk e => by have := hr k e.symm; omega
  exact ⟨a1.grown hg a1.size (fun k e => by have := hr k e; omega), (hg.block _ (blk_lt a2) (hne _ (by omega))).trans a2, (hg.block _ (blk_lt a3) (hne _ (by omega))).trans a3, (hg.block _ (blk_lt a4) (hne _ (by omega))).trans a4⟩
def PlN (w W0 : World) (n : Int) (pre : List (Nat × Ent)) (W : World) : Prop := PlI w n 0 80 W ∧ (∀ x ∈ pre, x.2.1.n ≠ n) ∧ W0.heap.size ≤ W.heap.size
def PlX (w : World) (n : Int) (c : Code) (pre : List (Nat × Ent)) (W : World) : Prop := c = .exit 0 ∧ ∃ (pre' : List (Nat × Ent)) (x : Nat × Ent), pre = pre' ++ [x] ∧ (∀ y ∈ pre', y.2.1.n ≠ n) ∧ x.2.1.n = n ∧ PlI w n (x.1 : Nat) 0 W
/-- What is known behind some packets that are not the one. -/
theorem idx_pre {E : List Ent} {l : List Fl} (hE : E.map (·.1) = l) {n : Int} {xs : List (Nat × Ent)} (hS : xs = tel E) (h : ∀ x ∈ xs, x.2.1.n ≠ n) : idx l n = none := by
  unfold idx
  rw [List.findIdx?_eq_none_iff]
  intro x hx
  rw [← hE] at hx
  obtain ⟨e, he, rfl⟩ := List.mem_map.1 hx
  obtain ⟨i, hi, rfl⟩ := List.getElem_of_mem he
  have := h (i, E.getD i noE) (by rw [hS]; exact List.mem_map.2 ⟨i, List.mem_range.2 hi, rfl⟩)
  simp only [List.getD_eq_getElem?_getD, List.getElem?_eq_getElem hi, Option.getD_some] at this
  simpa using this
theorem idx_hit {E : List Ent} {l : List Fl} (hE : E.map (·.1) = l) {n : Int} {pre : List (Nat × Ent)} {x : Nat × Ent} (hS : pre ++ [x] <+: tel E) (h : ∀ x ∈ pre, x.2.1.n ≠ n) (hx : x.2.1.n = n) : idx l n = some x.1 := by
  have hlen : (pre ++ [x]).length ≤ E.length := by have := hS.length_le; rwa [tel_length] at this
  simp only [List.length_append, List.length_singleton] at hlen
  have hg : ∀ i, i < pre.length + 1 → (pre ++ [x])[i]? = some (i, E.getD i noE) := by
    intro i hi
    rw [List.prefix_iff_eq_take.1 hS, List.getElem?_take, if_pos (by simpa using hi), tel, List.getElem?_map, List.getElem?_range (by omega)]
    rfl
  have hlast := hg pre.length (by omega)
  rw [List.getElem?_append_right (Nat.le_refl _), Nat.sub_self] at hlast
  have hx1 : x = (pre.length, E.getD pre.length noE) := by simpa using hlast
  have hel : E.length = l.length := by rw [← hE]; simp
  have hed : ∀ i, i < E.length → l[i]? = some (E.getD i noE).1 := by
    intro i hi
    rw [← hE, List.getElem?_map, List.getD_eq_getElem?_getD, List.getElem?_eq_getElem hi]
    rfl
  unfold idx
  rw [List.findIdx?_eq_some_iff_getElem]
  refine ⟨by rw [hx1]; simp only; omega, ?_, ?_⟩
  · have h1 := hed x.1 (by rw [hx1]; simp only; omega)
    rw [List.getElem?_eq_getElem (by rw [hx1]; simp only; omega)] at h1
    rw [Option.some.inj h1]
    rw [hx1] at hx ⊢
    simpa using hx
  · intro j hj
    have hjp : j < pre.length := by rw [hx1] at hj; exact hj
    have h1 := hed j (by omega)
    rw [List.getElem?_eq_getElem (by omega)] at h1
    rw [Option.some.inj h1]
    have h2 := hg j (by omega)
    rw [List.getElem?_append_left hjp] at h2
    have := h _ (List.mem_of_getElem? h2)
    simpa using this

theorem place_none (w : World) (n : Int) : Calls Try.prog 39 #[.pointer none, .int .i64 n] w fun e w' => e = .returned (.tuple #[.int .i64 0, .int .i64 1]) ∧ Below w.heap.size w w' := by
  go_enter Try.func39, Try.ntmps39
  go_wp2
  go_step3
  go_wp2
  try rw [Exit.noGoto_ret]
  refine bodyPost_ret (v := .tuple #[.int .i64 0, .int .i64 1]) (by simp [results, Try.results39, go_sem]) rfl ⟨rfl, (Below.refl _ w).alloc (Nat.le_refl _) _⟩

/-- What place answers. -/
def plV (l : List Fl) (n : Int) : Int × Int := match idx l n with | none => (0, 80) | some i => ((i : Nat), 0)

set_option maxHeartbeats 4000000 in
theorem place_any {w : World} {S : Nat → Prop} {o : Nat} {b : St} (h : BagAt 29 w S o b) (hl : b.l.length ≤ 256) (n : Int) :
    Calls Try.prog 39 #[.pointer (some ⟨o, 0, none⟩), .int .i64 n] w fun e w' => e = .returned (.tuple #[.int .i64 (plV b.l n).1, .int .i64 (plV b.l n).2]) ∧ Below w.heap.size w w' := by
  obtain ⟨⟨v, E, hE, ho, hw⟩, _, _⟩ := h
  have hol := blk_lt ho
  obtain ⟨P, hP⟩ : ∃ P : Ending → World → Prop, P = fun e w' => e = .returned (.tuple #[.int .i64 (plV b.l n).1, .int .i64 (plV b.l n).2]) ∧ Below w.heap.size w w' := ⟨_, rfl⟩
  have HP : Hid (∀ i e w', plV b.l n = (i, e) → Below w.heap.size w w' → P (.returned (.tuple #[.int .i64 i, .int .i64 e])) w') := by
    rw [hP]; intro i e w' h1 h2; exact ⟨by rw [h1], h2⟩
  rw [← hP]
  clear hP
  refine (callsIn_wide (n := 9)).1 ?_
  refine callsIn_of_wp_marks Try.func39 rfl trivial ?_ rfl
  simp only [Try.ntmps39, List.size_toArray, List.length_cons, List.length_nil, Nat.reduceAdd, Nat.reduceSub, Array.replicate_succ, Array.replicate_zero, List.push_toArray, List.append_toArray, List.nil_append, List.cons_append]
  have HO := Lib.hid ho
  have HW := Lib.hid hw
  clear ho hw
  gi_wp2_with fail
  refine wpIn_wide.2 (wp_scope_straight ((wpIn_wide (n := 9)).1 ?_))
  gi_wp2_with fail
  refine wpIn_label ?_
  gi_wp2_with fail
  refine ⟨trivial, (callsIn_wide.2 (placed_any _ _)).mono ?_⟩
  rintro e w2 ⟨rfl, rfl⟩
  gi_wp2_with fail
  obtain ⟨W0, hW0⟩ : ∃ W0, placedW (((w.alloc (.cells #[.int .i64 n] 3)).alloc (.cells #[.int .i64 0] 3)).alloc (.cells #[.int .i64 80] 49)) (.pointer (some ⟨o, 0, none⟩)) = W0 := ⟨_, rfl⟩
  have hz : W0.heap.size = w.heap.size + 4 := by rw [← hW0]; simp [placedW]
  have hb0 : Below w.heap.size w W0 := by rw [← hW0, placedW]; exact ((((Below.refl _ w).alloc (by simp) _).alloc (by simp) _).alloc (by simp; omega) _).alloc (by simp; omega) _
  have h0 : PlI w n 0 80 W0 := by
    have t1 := World.alloc_heap_new w (.cells #[.int .i64 n] 3)
    have t2 := World.alloc_heap_new (w.alloc (.cells #[.int .i64 n] 3)) (.cells #[.int .i64 0] 3)
    have t3 := World.alloc_heap_new ((w.alloc (.cells #[.int .i64 n] 3)).alloc (.cells #[.int .i64 0] 3)) (.cells #[.int .i64 80] 49)
    simp only [World.size_alloc] at t2 t3
    refine ⟨hb0, ?_, ?_, ?_⟩ <;> rw [← hW0, placedW]
    · rw [Below.heap_alloc _ _ _ (by simp; omega), Below.heap_alloc _ _ _ (by simp; omega), Below.heap_alloc _ _ _ (by simp)]; exact t1
    · rw [Below.heap_alloc _ _ _ (by simp), Below.heap_alloc _ _ _ (by simp)]; exact t2
    · rw [Below.heap_alloc _ _ _ (by simp)]; exact t3
  have hx0 : W0.cell? ⟨w.heap.size + 1 + 1 + 1, 0, none⟩ = some (.pointer (some ⟨o, 0, none⟩)) := by
    rw [← hW0]
    have := placedW_cell (((w.alloc (.cells #[.int .i64 n] 3)).alloc (.cells #[.int .i64 0] 3)).alloc (.cells #[.int .i64 80] 49)) (.pointer (some ⟨o, 0, none⟩))
    simpa only [World.size_alloc] using this
  have k0 : Kept (fun _ => False) w W0 := Kept.of_below hb0 (Nat.le_refl _)
  have ho0 := (k0.block o hol id).trans HO.out
  have hw0 := HW.out.kept k0 (fun _ _ => id)
  rw [hW0]
  have HPI := Lib.hid h0
  have HB0 := Lib.hid hb0
  have hvne : ∀ g, v.ownBlock = some g → g < w.heap.size := fun g hg => (HW.out.row.lt g hg).2
  clear hW0 h0 hb0 k0
  have HZ := Lib.hid hz
  clear hz
  -- what is done behind the loop
  have HEND : Hid (∀ (D : Nat) (i e : Int) (W : World), W0.heap.size ≤ D → plV b.l n = (i, e) → PlI w n i e W → W.heap[D]? = some (.deferred (some [])) → ∀ nq : Nat, (W.drewN nq).heap[D]? = some (.deferred (some [])) ∧ P (.returned (.tuple #[.int .i64 i, .int .i64 e])) ((W.drewN nq).putObj D (.deferred none))) := by
    intro D i e W hD h1 h2 h3 nq
    refine ⟨h3, HP.out i e _ h1 ?_⟩
    have h4 := h2.1
    refine ⟨h4.os, h4.tape, h4.output, by simpa [World.putObj] using h4.size, fun k hk => ?_⟩
    exact (World.putObj_heap_other (by have := HZ.out; omega)).trans (h4.block k hk)
  refine wpIn_rangeFunc_ownH rfl (by omega) (gf := 49) (lb := #[.pointer (some ⟨w.heap.size + 1 + 1 + 1, 0, none⟩)]) rfl trivial (enters_of Try.func49 (by kernel_rfl) rfl)
    (placed_stops (9 - 1) (by omega) hE hl ho0 hw0 hx0) (fun h k => h.trans k) ?hKb (Below.refl _ _) (fun _ => rfl)
    (PlN w W0 n) (PlX w n) ?hI ?hIx ⟨HPI.out, (fun x h => absurd h (List.not_mem_nil)), Nat.le_refl _⟩
    (fun x a' W => ∃ bk, W0.heap.size ≤ bk ∧ W.heap[bk]? = some (.cells #[.int .i64 x.2.1.n, .int .i64 x.2.1.f, .int .i64 x.2.1.t, Ent.v x.2, .bool x.2.1.s] 38 (0, 0)) ∧ a' = { tmps := #[.pointer (some ⟨o, 0, none⟩), .int .i64 n, undef, .pointer (some ⟨w.heap.size, 0, none⟩), .int .i64 0, .int .i64 0, .pointer (some ⟨w.heap.size + 1, 0, none⟩), .pointer (some ⟨w.heap.size + 1 + 1, 0, none⟩), .int .i64 (x.1 : Nat), .pointer (some ⟨bk, 0, none⟩), .pointer (some ⟨o, 0, none⟩), .bool false, .pointer (some ⟨o, 0, none⟩), .func (.func 49) #[] #[.pointer (some ⟨w.heap.size + 1 + 1 + 1, 0, none⟩)], .int .i64 (x.1 : Nat), flA x.2.1 (Ent.v x.2), undef, undef, undef, undef, undef, undef, undef], defers := [] })
    ?hAx ?assign ?body ?done ?stop
  case hKb =>
    intro W l o1 o' hl1 hl2 _ _ k hk
    refine World.putObj_heap_other ?_
    have hz := HZ.out
    rcases hk with rfl | rfl | hk
    · omega
    · omega
    · have := hvne _ hk; omega
  case hI =>
    rintro pre W W' row ⟨h1, h2, h3⟩ hg hr
    exact ⟨h1.grown (B := W0.heap.size) (by have := HZ.out; omega) hg (fun r e => (hr r e).1), h2, Nat.le_trans h3 hg.size⟩
  case hIx =>
    rintro c pre W W' row ⟨h1, pre', x, h2, h3, h4, h5⟩ hg hr
    exact ⟨h1, pre', x, h2, h3, h4, h5.grown (B := W0.heap.size) (by have := HZ.out; omega) hg (fun r e => (hr r e).1)⟩
  case hAx =>
    rintro x a' _ W W' row ⟨bk, h1, h2, h3⟩ hg hr
    refine ⟨bk, h1, (hg.block bk (blk_lt h2) (fun e => ?_)).trans h2, h3⟩
    obtain ⟨_, o1, h4, h5⟩ := hr bk e.symm
    rw [h2] at h4
    cases h4
    cases h5
  case assign =>
    rintro l pre x W K ⟨hI, hpre, hsz⟩ hK
    obtain ⟨i, ⟨n1, f1, t1, d1, s1⟩, A1, cap1⟩ := x
    simp only [enB, flA, Ent.v]
    gi_wp2
    refine hK _ _ (KeepsOthers.from ⟨by simp, fun k o hk _ => (Below.heap_alloc _ _ _ (blk_lt hk)).trans hk⟩ _) ?_ ⟨?_, hpre, by simp; omega⟩ ⟨W.heap.size, hsz, World.alloc_heap_new _ _, rfl⟩
    · intro k hk
      refine Below.heap_alloc _ _ _ ?_
      have hz := HZ.out
      rcases hk with rfl | rfl | hk
      · omega
      · omega
      · have := hvne _ hk; omega
    · obtain ⟨a1, a2, a3, a4⟩ := hI
      exact ⟨a1.alloc a1.size _, (Below.heap_alloc _ _ _ (blk_lt a2)).trans a2, (Below.heap_alloc _ _ _ (blk_lt a3)).trans a3, (Below.heap_alloc _ _ _ (blk_lt a4)).trans a4⟩
  case body =>
    rintro l pre x a' W hl1 _ ⟨hI, hpre, hsz⟩ ⟨bk, hbk, hbx, rfl⟩ hlen
    obtain ⟨⟨q0, _⟩, _⟩ := five hbx
    have q1 : W.cell? ⟨w.heap.size, 0, none⟩ = some (.int .i64 n) := by rw [blk_cell hI.2.1]; rfl
    have q2 : W.cell? ⟨w.heap.size + 1, 0, none⟩ = some (.int .i64 0) := by rw [blk_cell hI.2.2.1]; rfl
    have q3 : W.cell? ⟨w.heap.size + 1 + 1, 0, none⟩ = some (.int .i64 80) := by rw [blk_cell hI.2.2.2]; rfl
    have q4 := blk_free hI.2.2.1 0
    have q5 := blk_free hI.2.2.2 0
    clear hbx
    have HN : Hid (x.2.1.n ≠ n → KeepsFrom W0.heap.size W W ∧ KpB o (w.heap.size + 1 + 1 + 1) v W W ∧ PlN w W0 n (pre ++ [x]) W) := fun h => by
      refine ⟨KeepsFrom.refl _ _, fun _ _ => rfl, hI, fun y hy => ?_, hsz⟩
      rcases List.mem_append.1 hy with hy | hy
      · exact hpre y hy
      · rw [List.mem_singleton] at hy; subst hy; exact h
    have HX : Hid (x.2.1.n = n → ∀ j : Nat, j = x.1 → ∀ W', W' = (W.setCell ⟨w.heap.size + 1, 0, none⟩ (.int .i64 (j : Int))).setCell ⟨w.heap.size + 1 + 1, 0, none⟩ (.int .i64 0) → KeepsFrom W0.heap.size W W' ∧ PlX w n (.exit 0) (pre ++ [x]) W') := fun h j hj W' hW' => by
      subst hj hW'
      have hz := HZ.out
      obtain ⟨a1, a2, a3, a4⟩ := hI
      refine ⟨⟨by simp, fun k o hk ho _ => ?_⟩, rfl, pre, x, rfl, hpre, h, (a1.setCell (p := ⟨w.heap.size + 1, 0, none⟩) (by simp) _).setCell (p := ⟨w.heap.size + 1 + 1, 0, none⟩) (by simp; omega) _, ?_, ?_, ?_⟩
      · rw [Below.heap_setCell _ _ _ _ (by simp; omega), Below.heap_setCell _ _ _ _ (by simp; omega)]; exact ho
      · rw [Below.heap_setCell _ _ _ _ (by simp; omega), Below.heap_setCell _ _ _ _ (by simp)]; exact a2
      · rw [Below.heap_setCell _ _ _ _ (by simp), blk_set a3]; rfl
      · rw [blk_set (cur := #[.int .i64 80]) (e := 49) (m := (0, 0))]
        · rfl
        · rw [Below.heap_setCell _ _ _ _ (by simp)]; exact a4
    clear hI hpre
    generalize pre ++ [x] = pre2 at *
    generalize Ent.v x.2 = xv at *
    generalize x.2.1.n = xn at *
    generalize x.1 = j at *
    simp only [flA]
    by_cases hn : xn = n
    · have HX2 := Lib.hid (HX.out hn j rfl _ rfl)
      subst hn
      gi_wp2
      exact HX2.out
    · have d1 : (xn == n) = false := by simpa using hn
      have HN2 := Lib.hid (HN.out hn)
      gi_wp2
      exact HN2.out
  case done =>
    rintro D xs W hD hS ⟨h1, h2, _⟩ hK
    have HE := Lib.hid (HEND.out D 0 80 W hD (by rw [plV, idx_pre hE hS h2]) h1 hK)
    have q2 : W.cell? ⟨w.heap.size + 1, 0, none⟩ = some (.int .i64 0) := by rw [blk_cell h1.2.2.1]; rfl
    have q3 : W.cell? ⟨w.heap.size + 1 + 1, 0, none⟩ = some (.int .i64 80) := by rw [blk_cell h1.2.2.2]; rfl
    clear h1 h2 hS hK
    gi_wp2
    gi_region
    gi_wp2
    rw [Exit.noGoto_ret]
    refine ⟨by simp, .inl ⟨_, _, rfl, run_takeDeferred (HE.out 1).1, ?_⟩⟩
    exact ⟨_, results_tmp2 (t := 4) (u := 5) rfl _ _ _, (HE.out 1).2⟩
  case stop =>
    rintro D c pre W hD hS ⟨rfl, pre', x, rfl, h2, h3, h4⟩ hK
    have HE := Lib.hid (HEND.out D (x.1 : Nat) 0 W hD (by rw [plV, idx_hit hE hS h2 h3]) h4 hK)
    have q2 : W.cell? ⟨w.heap.size + 1, 0, none⟩ = some (.int .i64 (x.1 : Nat)) := by rw [blk_cell h4.2.2.1]; rfl
    have q3 : W.cell? ⟨w.heap.size + 1 + 1, 0, none⟩ = some (.int .i64 0) := by rw [blk_cell h4.2.2.2]; rfl
    clear h4 h2 h3 hS hK
    generalize x.1 = j at *
    gi_wp2
    gi_region
    gi_wp2
    rw [Exit.noGoto_ret]
    refine ⟨by simp, .inl ⟨_, _, rfl, run_takeDeferred (HE.out 1).1, ?_⟩⟩
    exact ⟨_, results_tmp2 (t := 4) (u := 5) rfl _ _ _, (HE.out 1).2⟩
end Go.Proofs.Ytinihggcibghaaa
