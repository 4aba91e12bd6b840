/-
  The document's bag: cut.
-/
import Derived.Test.YtinihggcibghaaaBl2
import Derived.OwnWalk
namespace Go.Proofs.Ytinihggcibghaaa
set_option maxRecDepth 100000
set_option linter.unusedSimpArgs false
open Go Go.RowKit Bg
attribute [local go_sem] Oper.semAt_some

@[reducible] def zFl : Obj := .cells #[.int .i64 0, .int .i64 0, .int .i64 0, .slice none 0 0, .bool false] 38
/-- A list of a bag is laid anew. -/
theorem Own.moved {w w3 : World} {S : Nat → Prop} {o i B : Nat} {v v3 : Value} {E : List Ent} (h : Own w S o v E) (hB : w.heap.size ≤ B) (hol : o < w.heap.size) (hlt : ∀ k, S k → k < w.heap.size) (hb : Below w.heap.size w w3) (hr : w3.ownsRow B 38 5 v3 (E.eraseIdx i).length (csE (E.eraseIdx i))) :
    Own w3 (fun k => S k ∨ B ≤ k ∧ k < w3.heap.size) o v3 (E.eraseIdx i) := by
  have kk : Kept (fun _ => False) w w3 := Kept.of_below hb (Nat.le_refl _)
  refine ⟨row_base hr (Nat.zero_le _), fun e he => kk.row (h.dat e (List.mem_of_mem_eraseIdx he)) (fun _ _ => id), fun g hg => ?_, fun e he g hg => ?_, ?_⟩
  · have := hr.lt g hg
    exact ⟨.inr this, by omega⟩
  · obtain ⟨h1, h2, _⟩ := h.eo e (List.mem_of_mem_eraseIdx he) g hg
    exact ⟨.inl h1, h2, fun e2 => by have := hr.lt g e2; have := hlt g h1; omega⟩
  · unfold Apart
    exact h.apart.sublist ((List.eraseIdx_sublist E i).map _)

set_option maxHeartbeats 4000000 in
theorem rcut_any {w : World} {S : Nat → Prop} {o i : Nat} {b : St} (h : BagAt 32 w S o b) (hl : b.l.length ≤ 256) (hi : i < b.l.length) :
    Calls Try.prog 47 #[.pointer (some ⟨o, 0, none⟩), .int .i64 (i : Nat)] w fun e w' => (∃ A cap, e = .returned (flA (b.l.getD i noFl) (.slice A (b.l.getD i noFl).d.length cap)) ∧ BytesAt w' A (b.l.getD i noFl).d ∧ ∀ a, A = some a → S a.block) ∧ StepTo 32 w S o { b with l := b.l.eraseIdx i } w' := by
  obtain ⟨P, hP⟩ : ∃ P : Ending → World → Prop, P = fun e w' => (∃ A cap, e = .returned (flA (b.l.getD i noFl) (.slice A (b.l.getD i noFl).d.length cap)) ∧ BytesAt w' A (b.l.getD i noFl).d ∧ ∀ a, A = some a → S a.block) ∧ StepTo 32 w S o { b with l := b.l.eraseIdx i } w' := ⟨_, rfl⟩
  obtain ⟨⟨v, E, hE, ho, hw⟩, hso, hlt⟩ := h
  have hlen : E.length = b.l.length := by rw [← hE]; simp
  rw [← hlen] at hi hl
  obtain ⟨A0, cap0, rfl, hc1, hc2, hA0⟩ := hw.form
  obtain ⟨g, rfl⟩ := hA0 (by omega)
  obtain ⟨a1, a2, a3, a4⟩ := hw.ent hi
  obtain ⟨x0, x1, x2, x3, x4⟩ := hw.cells hi
  have hx := entD hE i
  have hol := blk_lt ho
  obtain ⟨⟨o0, _⟩, of⟩ := eight ho
  have of0 := of 0
  clear of
  have hbe : ∀ a, (E.getD i noE).2.1 = some a → S a.block ∧ a.block ≠ o := fun a ha => by
    have := hw.eo _ (entM (E := E) (k := i) hi) a.block (by unfold Ent.v; rw [ha]; rfl)
    exact ⟨this.1, this.2.1⟩
  unfold Ent.v at x3
  rw [hx] at x0 x1 x2 x3 x4 a1
  generalize (E.getD i noE).2.1 = A1 at *
  generalize (E.getD i noE).2.2 = cap1 at *
  -- what there is behind the appends
  have HEND : Hid (∀ (w3 : World) (v3 : Value), Below w.heap.size w w3 → w3.ownsRow (w.heap.size + 2) 38 5 v3 (E.length - 1) (csE (E.eraseIdx i)) → w3.heap[w.heap.size]? = some zFl →
      ∀ W9, W9 = ((((((w3.setCell ⟨o, 0, none⟩ v3).setCell ⟨w.heap.size, 0, none⟩ (.int .i64 (b.l.getD i noFl).n)).setCell ⟨w.heap.size, 1, none⟩ (.int .i64 (b.l.getD i noFl).f)).setCell ⟨w.heap.size, 2, none⟩ (.int .i64 (b.l.getD i noFl).t)).setCell ⟨w.heap.size, 3, none⟩ (.slice A1 (b.l.getD i noFl).d.length cap1)).setCell ⟨w.heap.size, 4, none⟩ (.bool (b.l.getD i noFl).s)) → W9.heap[w.heap.size]? = some (.cells #[.int .i64 (b.l.getD i noFl).n, .int .i64 (b.l.getD i noFl).f, .int .i64 (b.l.getD i noFl).t, .slice A1 (b.l.getD i noFl).d.length cap1, .bool (b.l.getD i noFl).s] 38 (0, 0)) ∧ P (.returned (flA (b.l.getD i noFl) (.slice A1 (b.l.getD i noFl).d.length cap1))) W9) := by
    intro w3 v3 hb hr hz W9 hW9
    rw [hP]
    have hlen2 : (E.eraseIdx i).length = E.length - 1 := by rw [List.length_eraseIdx, if_pos hi]
    rw [← hlen2] at hr
    have hown := hw.moved (B := w.heap.size + 2) (by omega) hol hlt hb hr
    have hzz := blk_lt hz
    have kR : Kept (fun k => k = w.heap.size) (w3.setCell ⟨o, 0, none⟩ v3) W9 := by
      rw [hW9]
      exact (((((Kept.refl (fun k => k = w.heap.size) (w3.setCell ⟨o, 0, none⟩ v3)).setCell (p := ⟨w.heap.size, 0, none⟩) (.inl rfl) _).setCell (p := ⟨w.heap.size, 1, none⟩) (.inl rfl) _).setCell (p := ⟨w.heap.size, 2, none⟩) (.inl rfl) _).setCell (p := ⟨w.heap.size, 3, none⟩) (.inl rfl) _).setCell (p := ⟨w.heap.size, 4, none⟩) (.inl rfl) _
    have kO := setO w3 o 0 v3
    have ho3 : w3.heap[o]? = _ := (hb.block o hol).trans ho
    have hoo : W9.heap[o]? = some (.cells (objC v3 { b with l := b.l.eraseIdx i }) 32 (0, 0)) := by
      rw [kR.block o (by simp; omega) (by omega), blk_set ho3 0 v3]; rfl
    have hR : W9.heap[w.heap.size]? = some (.cells #[.int .i64 (b.l.getD i noFl).n, .int .i64 (b.l.getD i noFl).f, .int .i64 (b.l.getD i noFl).t, .slice A1 (b.l.getD i noFl).d.length cap1, .bool (b.l.getD i noFl).s] 38 (0, 0)) := by
      have h0 : (w3.setCell ⟨o, 0, none⟩ v3).heap[w.heap.size]? = some zFl := (kO.block _ hzz (by omega)).trans hz
      rw [hW9, blk_set (blk_set (blk_set (blk_set (blk_set h0 0 _) 1 _) 2 _) 3 _) 4 _]
      rfl
    have hlast : Own W9 (fun k => S k ∨ w.heap.size + 2 ≤ k ∧ k < w3.heap.size) o v3 (E.eraseIdx i) := (hown.obj kO).kept kR (fun k hk e => by
      rcases hk with hk | hk
      · have := hlt k hk; omega
      · omega)
    have kW : Kept S w W9 := by
      refine (Kept.of_below hb (Nat.le_refl _)).trans ((kO.mono (Y := fun k => S k ∨ k = w.heap.size) (fun k _ e => by rw [e]; exact .inl hso)).trans (kR.mono (Y := fun k => S k ∨ k = w.heap.size) (fun k _ e => .inr e)) (fun _ _ h => h)) (fun k hk e => e.elim id (fun e => by omega))
    refine ⟨hR, ⟨A1, cap1, rfl, ?_, fun a ha => (hbe a ha).1⟩, ?_⟩
    · refine ((a1.below hb).kept kO ?_).kept kR ?_
      · intro a ha e
        exact (hbe a ha).2 e
      · intro a ha e
        have := hlt _ (hbe a ha).1
        omega
    · refine ⟨kW, (fun k => S k ∨ w.heap.size + 2 ≤ k ∧ k < w3.heap.size), ⟨⟨v3, E.eraseIdx i, ?_, hoo, hlast⟩, .inl hso, ?_⟩, fun k h => .inl h, fun k h => h.imp id (fun h => by omega)⟩
      · rw [map_erase, hE]
      · rintro k (h | h)
        · have := hlt k h
          have := kR.size
          simp at this
          omega
        · have := kR.size
          simp at this
          omega
  have hF0 : ∀ {W : World}, Kept (fun _ => False) w W → W.ownsRow 0 38 5 (.slice (some ⟨g, 0, none⟩) E.length cap0) E.length (csE E) := fun hk => hk.row hw.row (fun _ _ => id)
  have HA1 : Hid (∀ W, Kept (fun _ => False) w W → ∀ j u, (csE (E.take i))[j]? = some u → W.cell? ((⟨g, 0, none⟩ : Addr).add j) = some u) := fun W hk j u hu => by
    rw [← csE_take] at hu
    have hj : j < i * 5 := by
      rcases Nat.lt_or_ge j (i * 5) with h | h
      · exact h
      · rw [List.getElem?_eq_none (by simp; omega)] at hu; cases hu
    rw [List.getElem?_take_of_lt hj] at hu
    have hlt5 := (List.getElem?_eq_some_iff.1 hu).1
    rw [csE_length] at hlt5
    rw [Addr.add_lit, Nat.zero_add, (hF0 hk).cellAt _ hlt5]
    exact hu
  obtain ⟨Ad, hAd, hsrc⟩ : ∃ Ad : Addr, (if cap0 = i + 1 then some (⟨g, 0, none⟩ : Addr) else some ⟨g, (i + 1) * 5, none⟩) = some Ad ∧ ∀ W, Kept (fun _ => False) w W → ∀ j u, (csE (E.drop (i + 1)))[j]? = some u → W.cell? (Ad.add j) = some u := by
    by_cases hc : cap0 = i + 1
    · refine ⟨⟨g, 0, none⟩, by simp [hc], fun W hk j u hu => ?_⟩
      rw [List.drop_eq_nil_of_le (by omega)] at hu
      simp [csE] at hu
    · refine ⟨⟨g, (i + 1) * 5, none⟩, by simp [hc], fun W hk j u hu => ?_⟩
      rw [← csE_drop, List.getElem?_drop] at hu
      have hlt5 := (List.getElem?_eq_some_iff.1 hu).1
      rw [csE_length] at hlt5
      rw [Addr.add_lit, (hF0 hk).cellAt _ hlt5]
      exact hu
  have HA2 := Lib.hid hsrc
  have hER : csE (E.take i ++ E.drop (i + 1)) = csE (E.eraseIdx i) := by rw [List.eraseIdx_eq_take_drop_succ]
  have HER := Lib.hid hER
  have HT : Hid ((E.take i).length = i ∧ (E.drop (i + 1)).length = E.length - (i + 1)) := ⟨by simp; omega, by simp⟩
  rw [← hP]
  clear hP hw hF0 hsrc hER a1 a2 a3 a4 hx hE hlen hbe hlt ho hA0 hso
  generalize hEn : E.length = n at *
  clear hEn
  generalize b.l.getD i noFl = x at *
  obtain ⟨n1, f1, t1, d1, s1⟩ := x
  simp only at *
  generalize d1.length = L1 at *
  have i0 : (0 : Int) ≤ (i : Int) := by omega
  have i1 : (i : Int) < (n : Int) := by omega
  have i2 : i ≤ cap0 := by omega
  have i3 : i + 1 ≤ cap0 := by omega
  have i4 : i ≤ n := by omega
  have HW0 : Hid (Kept (fun _ => False) w ((w.alloc zFl).alloc (.cells #[.int .i64 n1, .int .i64 f1, .int .i64 t1, .slice A1 L1 cap1, .bool s1] 38))) := ((Kept.refl _ w).alloc _).alloc _
  have o1 := cell_a1 o0
  have o2 := cell_a2 o0
  have y0 := cell_a1 x0
  have y1 := cell_a1 x1
  have y2 := cell_a1 x2
  have y3 := cell_a1 x3
  have y4 := cell_a1 x4
  go_enter Try.func47, Try.ntmps47
  go_wp2_with (at_builtin; go_loud (refine wpList_append_fl rfl (.tmp 14) (.tmp 20) rfl (w.heap.size + 2) (n := 0) (L := []) rfl (World.ownsRow_nil _ _ _ _) (ad := ⟨g, 0, none⟩) (m := i) (news := E.take i) rfl (HA1.out _ HW0.out) HT.out.1.symm (by omega) (by simp) ?_))
  intro v2 w2 hr2 hg2
  have kw2 : Kept (fun _ => False) w w2 := HW0.out.grown hg2 (fun k e => by cases e)
  have hR2 : w2.heap[w.heap.size]? = some zFl := by
    rw [hg2.block _ (by simp; omega) (by simp [Value.ownBlock])]
    exact (Below.heap_alloc _ _ _ (by simp)).trans (World.alloc_heap_new w _)
  have hX2 : w2.heap[w.heap.size + 1]? = some (.cells #[.int .i64 n1, .int .i64 f1, .int .i64 t1, .slice A1 L1 cap1, .bool s1] 38) := by
    rw [hg2.block _ (by simp) (by simp [Value.ownBlock])]
    have := World.alloc_heap_new (w.alloc zFl) (.cells #[.int .i64 n1, .int .i64 f1, .int .i64 t1, .slice A1 L1 cap1, .bool s1] 38)
    rw [World.size_alloc] at this
    exact this
  have HK2 := Lib.hid kw2
  have HR2 := Lib.hid hR2
  have HX2 := Lib.hid hX2
  have HOW2 := Lib.hid hr2
  have p0 := kw2.cell o0 id
  have hsz2 : w.heap.size + 2 ≤ w2.heap.size := blk_lt hX2
  clear hg2 hr2 hR2 hX2 kw2 HW0 HA1 o1 o2 y0 y1 y2 y3 y4 x0 x1 x2 x3 x4
  go_wp2_with (at_builtin; go_loud (refine wpList_append_fl rfl (.tmp 23) (.tmp 30) rfl (w.heap.size + 2) (n := i) (L := E.take i) rfl HOW2.out (ad := Ad) (m := n - (i + 1)) (c := cap0 - (i + 1)) (news := E.drop (i + 1)) rfl (HA2.out _ HK2.out) HT.out.2.symm (by omega) hsz2 ?_))
  intro v3 w3 hr3 hg3
  have hv2 := fun g h => (HOW2.out.lt g h).1
  have kw3 : Kept (fun _ => False) w w3 := HK2.out.grown hg3 (fun k e => .inr (by have := hv2 k e; omega))
  have hR3 : w3.heap[w.heap.size]? = some zFl := (hg3.block _ (by omega) (fun e => by have := hv2 _ e.symm; omega)).trans HR2.out
  have hX3 : w3.heap[w.heap.size + 1]? = some (.cells #[.int .i64 n1, .int .i64 f1, .int .i64 t1, .slice A1 L1 cap1, .bool s1] 38) := (hg3.block _ (by omega) (fun e => by have := hv2 _ e.symm; omega)).trans HX2.out
  have hin : i + (n - (i + 1)) = n - 1 := by omega
  rw [HER.out, hin] at hr3
  obtain ⟨A3, c3, rfl⟩ : ∃ A3 c3, v3 = .slice A3 (n - 1) c3 := by
    rcases hr3.2 with ⟨rfl, h0⟩ | ⟨g3, cap3, cur3, rfl, _⟩
    · exact ⟨none, 0, by rw [h0]⟩
    · exact ⟨_, _, rfl⟩
  have HE := Lib.hid (HEND.out w3 _ (kw3.below (fun _ h => h.elim) (Nat.le_refl _)) hr3 hR3)
  obtain ⟨⟨b0, b1, b2, b3, b4⟩, _⟩ := five hX3
  obtain ⟨_, f0, f1', f2, f3, f4⟩ := five hR3
  have p3 := kw3.cell o0 id
  have p4 : w3.frozen? ⟨o, 0, none⟩ = false := by rw [kw3.frozen (p := ⟨o, 0, none⟩) hol id]; exact of0
  clear hg3 hr3 hR3 hX3 kw3 HEND HOW2 HK2 HR2 HX2 p0 of0 o0 hin hv2
  go_wp2
  obtain ⟨W9, hW9⟩ : ∃ W9, W9 = ((((((w3.setCell ⟨o, 0, none⟩ (.slice A3 (n - 1) c3)).setCell ⟨w.heap.size, 0, none⟩ (.int .i64 n1)).setCell ⟨w.heap.size, 1, none⟩ (.int .i64 f1)).setCell ⟨w.heap.size, 2, none⟩ (.int .i64 t1)).setCell ⟨w.heap.size, 3, none⟩ (.slice A1 L1 cap1)).setCell ⟨w.heap.size, 4, none⟩ (.bool s1)) := ⟨_, rfl⟩
  rw [← hW9]
  obtain ⟨hR9, hP9⟩ := HE.out W9 hW9
  obtain ⟨⟨z0, z1, z2, z3, z4⟩, _⟩ := five hR9
  exact bodyPost_ret (v := .agg #[.int .i64 n1, .int .i64 f1, .int .i64 t1, .slice A1 L1 cap1, .bool s1]) (by simp [results, Try.results47, go_sem, z0, z1, z2, z3, z4]) rfl hP9
end Go.Proofs.Ytinihggcibghaaa
