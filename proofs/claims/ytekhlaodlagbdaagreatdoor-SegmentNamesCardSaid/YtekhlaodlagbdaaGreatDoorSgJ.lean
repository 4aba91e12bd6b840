/-
  segment.joined: the cells that are joined with one.
-/
import Derived.Test.YtekhlaodlagbdaaGreatDoorSgSort
import Derived.Test.YtekhlaodlagbdaaGreatDoorSgP
import Derived.Laws.AppendOwnNone
import Derived.Lib.Hide
import Derived.WalkKit
import Derived.WalkSpells
import Derived.WalkLawsBesides
namespace Go.Proofs.YtekhlaodlagbdaaGreatDoor
set_option maxRecDepth 100000
set_option linter.unusedSimpArgs false
open Go Go.RowKit

/-- The map's edges have been found. -/
def DoneC (bm : Nat) (w : World) : Prop := w.cell? ⟨bm, 3, none⟩ = some (.int .u32 1)
/-- The map was asked. -/
structure JX (bm gm cm R C : Nat) (ms : List UInt8) (w w' : World) : Prop where
  em : EM bm gm cm R C ms w'
  ts : ∀ k, TS bm gm w' k → TS bm gm w k ∨ (w.heap.size ≤ k ∧ ¬ DoneC bm w)
  kept : Kept (fun k => k = bm ∧ ¬ DoneC bm w) w w'
  done : DoneC bm w'

section
variable {bm gm cm R C : Nat} {ms : List UInt8} {w w' w'' : World}
theorem EM.done_of (h : EM bm gm cm R C ms w) (hd : DoneC bm w) : Done bm R C ms w := by
  rcases h.st with hr | hd'
  · unfold DoneC at hd
    rw [blk_cell hr] at hd
    simp [cellsE] at hd
  · exact hd'
theorem DoneC.kept {X : Nat → Prop} (h : DoneC bm w) (hk : Kept X w w') (hX : ¬ X bm) : DoneC bm w' := hk.cell h hX
theorem JX.trans (h : JX bm gm cm R C ms w w') (k : JX bm gm cm R C ms w' w'') : JX bm gm cm R C ms w w'' :=
  ⟨k.em, fun i hi => by
    rcases k.ts i hi with h1 | ⟨_, h2⟩
    · exact h.ts i h1
    · exact absurd h.done h2, h.kept.trans k.kept (fun i _ hx => absurd h.done hx.2), k.done⟩
theorem JX.ownT {X : Nat → Prop} (h : JX bm gm cm R C ms w w') (hk : Kept X w' w'') (hX : ∀ k, TS bm gm w' k → ¬ X k) : ∀ k, TS bm gm w'' k → TS bm gm w' k := (h.em.keptX hk hX).2
/-- Memory that is none of the map's turns. -/
theorem JX.own {X : Nat → Prop} (h : JX bm gm cm R C ms w w') (hk : Kept X w' w'') (hX : ∀ k, TS bm gm w' k → ¬ X k) (hn : ∀ k, X k → w.heap.size ≤ k) : JX bm gm cm R C ms w w'' := by
  obtain ⟨h1, h2⟩ := h.em.keptX hk hX
  exact ⟨h1, fun k hk => h.ts k (h2 k hk), h.kept.trans hk (fun i hi hx => by have := hn i hx; omega), h.done.kept hk (hX bm (.inr (.inl rfl)))⟩
theorem JX.drew (h : JX bm gm cm R C ms w w') : JX bm gm cm R C ms w w'.drew := h.own ((Kept.refl (fun _ => False) w').drew) (fun _ _ => id) (fun _ h => h.elim)
theorem JX.alloc (h : JX bm gm cm R C ms w w') (o : Obj) : JX bm gm cm R C ms w (w'.alloc o) := h.own ((Kept.refl (fun _ => False) w').alloc o) (fun _ _ => id) (fun _ h => h.elim)
theorem JX.refl (h : EM bm gm cm R C ms w) (hd : DoneC bm w) : JX bm gm cm R C ms w w := ⟨h, fun _ h => .inl h, Kept.refl _ _, hd⟩
/-- Where the edges have been found already there is new memory alone. -/
theorem JX.below (h : JX bm gm cm R C ms w w') (hd : DoneC bm w) : Below w.heap.size w w' := h.kept.below (fun _ hk => absurd hd hk.2) (Nat.le_refl _)
theorem JX.tlt (h : JX bm gm cm R C ms w w') (hN : 0 < ms.length) : ∀ k, TS bm gm w' k → k < w'.heap.size := h.em.tlt hN

/-- What Next and Back leave. -/
def TabY (bm gm cm R C : Nat) (ms : List UInt8) (w : World) (l : List Nat) (e : Ending) (w' : World) : Prop :=
  ∃ v B, e = .returned v ∧ JX bm gm cm R C ms w w' ∧ w.heap.size ≤ B ∧ B ≤ w'.heap.size ∧ (∀ k, TS bm gm w' k → k < B) ∧ w'.ownsRow B 3 1 v l.length (l.map natV)
theorem tabY_of {i : Int} {l : List Nat} {e : Ending} (hE : EM bm gm cm R C ms w) (hi : 0 ≤ i ∧ i < (ms.length : Int)) (h : TabPostU bm gm cm R C ms w i l e w') : TabY bm gm cm R C ms w l e w' := by
  have hN : 0 < ms.length := by omega
  obtain ⟨v, w1, rfl, he, hg, hsame, hdn, hup, hown, hb⟩ := h
  have hd1 := hdn hi
  have hk1 : Kept (fun k => k = bm ∧ ¬ DoneC bm w) w w1 := by
    by_cases hd : DoneC bm w
    · rw [hsame (hE.done_of hd)]
      exact Kept.refl _ _
    · exact (Kept.refl _ w).grown hg (fun _ e => .inl ⟨by injection e with e; exact e.symm, hd⟩)
  have hb' : Kept (fun _ => False) w1 w' := Kept.of_below hb (Nat.le_refl _)
  obtain ⟨he', ht'⟩ := he.keptX hb' (fun _ _ => id)
  refine ⟨v, w1.heap.size, rfl, ⟨he', fun k hk => ?_, hk1.trans hb' (fun _ _ h => h.elim), DoneC.kept (w := w1) hd1.c3 hb' id⟩, hk1.size, hb'.size, fun k hk => he.tlt hN k (ht' k hk), hown⟩
  have hk' := ht' k hk
  rcases hE.st with hr | hd
  · have hu := hup w.heap.size (Nat.le_refl _) (up_ready hr)
    have hnd : ¬ DoneC bm w := fun h => by
      unfold DoneC at h
      rw [blk_cell hr] at h
      simp [cellsE] at h
    rcases hk' with rfl | rfl | rfl | ⟨f, hf, q, n, c, hc, hh⟩
    · exact .inl (.inl rfl)
    · exact .inl (.inr (.inl rfl))
    · exact .inl (.inr (.inr (.inl rfl)))
    · obtain ⟨u1, u2⟩ := hu f hf q n c hc
      right
      rcases hh with rfl | ⟨j, hj, v', hv, hvk⟩
      · exact ⟨u1, hnd⟩
      · exact ⟨u2 j hj v' hv k hvk, hnd⟩
  · left
    rw [hsame hd] at hk'
    exact hk'
theorem next_y (i : Int) (hi : 0 ≤ i ∧ i < (ms.length : Int)) (h : EM bm gm cm R C ms w) :
    Calls Tryz.prog 49 #[.pointer (some ⟨bm, 0, none⟩), .int .i64 i] w (TabY bm gm cm R C ms w (nextZ R C ms i)) :=
  (next_anyU i h).mono fun _ _ hq => tabY_of h hi hq
theorem back_y (i : Int) (hi : 0 ≤ i ∧ i < (ms.length : Int)) (h : EM bm gm cm R C ms w) :
    Calls Tryz.prog 112 #[.pointer (some ⟨bm, 0, none⟩), .int .i64 i] w (TabY bm gm cm R C ms w (backZ R C ms i)) :=
  (back_anyU i h).mono fun _ _ hq => tabY_of h hi hq
end

/-- A list of memory of its own behind another one. -/
theorem wpList_append_rows {ops : Array Oper} {rest : List Oper} {o : Oper} {a : Act} {w : World} {Q : Exit → Act → World → Prop} (hgd : o.guard = none) (s x : Operand)
    (ho : o.op = .call { callee := .builtin .append, args := #[s, x], argTypes := #[36, 36] }) (base : Nat) {v : Value} {n : Nat} {xs : List Value} (hs : a.eval s = v) (hown : w.ownsRow base 3 1 v n xs)
    {base2 : Nat} {u : Value} {m : Nat} {ys : List Value} (hx : a.eval x = u) (hA : w.ownsRow base2 3 1 u m ys) (h1 : ∀ u ∈ ys, u.oneCell' = true)
    (h63 : n + m ≤ 1000000) (hbase : base ≤ w.heap.size)
    (h : ∀ v' w', w'.ownsRow base 3 1 v' (n + m) (xs ++ ys) → w.grownBy w' v.ownBlock → wpList Tryz.prog ops Q rest (a.put o.dst v') w') : wpList Tryz.prog ops Q (o :: rest) a w := by
  obtain ⟨i0, hi0, hz0, hz1, hz2⟩ := info_parts Tryz.infoInt
  rcases hA.2 with ⟨rfl, h0⟩ | ⟨g, cap, cur, rfl, h2, h3, h4, _⟩
  · subst h0
    have hy : ys = [] := List.eq_nil_of_length_eq_zero (by simpa using hA.1)
    subst hy
    exact wpList_append_own_none hgd s x 36 ho base 3 i0 1 Tryz.underlying36 hi0 v n xs hs hown hx (h v w (by simpa using hown) (World.grownBy.refl w _))
  · exact wpList_append_own (P := Tryz.prog) w hgd s x 36 ho base 3 i0 (.int .i64 0) 1 8 Tryz.underlying36 hi0 hz0 hz1 hz2 rfl (by decide) v n xs hs hown ⟨g, 0, none⟩ m cap ys hx (by rw [hA.1]) (hA.cells rfl) h1 (by unfold maxLen; omega) (by omega) hbase (fun v' w' h1 h2 _ => h v' w' h1 h2)

theorem insY {R C : Nat} {ms : List UInt8} {i u : Nat} : i ∈ ins R C ms u ↔ i < ms.length ∧ u ∈ outs R C ms i := by
  unfold ins
  rw [List.mem_filter, List.mem_range, decide_eq_true_eq]
/-- The cells that are joined with one, rising. -/
def jnF (R C : Nat) (ms : List UInt8) (a : Nat) : List Nat := (List.range ms.length).filter (fun b => decide (b ∈ outs R C ms a) || decide (a ∈ outs R C ms b))
theorem jnF_mem {R C : Nat} {ms : List UInt8} {a b : Nat} : b ∈ jnF R C ms a ↔ b < ms.length ∧ (b ∈ outs R C ms a ∨ a ∈ outs R C ms b) := by
  unfold jnF
  rw [List.mem_filter, List.mem_range, Bool.or_eq_true, decide_eq_true_eq, decide_eq_true_eq]
theorem jnF_rise (R C : Nat) (ms : List UInt8) (a : Nat) : (jnF R C ms a).Pairwise (· < ·) := List.Pairwise.filter _ (List.pairwise_lt_range (n := ms.length))
/-- What joined's list is made of. -/
theorem jnF_of {R C : Nat} {ms : List UInt8} (hN : R * C = ms.length) {a : Nat} : ∃ m, Lib.compact (intsQ (srtQ (outs R C ms a ++ ins R C ms a))) = intsQ m ∧ m = jnF R C ms a := by
  have hs : (srtQ (outs R C ms a ++ ins R C ms a)).Pairwise (· ≤ ·) := by
    have := List.pairwise_mergeSort (le := fun x y : Nat => decide (x ≤ y)) (fun a b c h1 h2 => by simp at *; omega) (fun a b => by simp; omega) (outs R C ms a ++ ins R C ms a)
    unfold srtQ
    exact this.imp (fun h => by simpa using h)
  obtain ⟨m, h1, h2, h3⟩ := compact_rise hs
  refine ⟨m, h1, rise_ext h2 (jnF_rise R C ms a) fun x => ?_⟩
  rw [h3 x]
  unfold srtQ
  rw [List.mem_mergeSort, List.mem_append, jnF_mem, insY]
  constructor
  · rintro (h | h)
    · exact ⟨by rw [← hN]; exact outs_bd h, .inl h⟩
    · exact ⟨h.1, .inr h.2⟩
  · rintro ⟨h4, h | h⟩
    · exact .inl h
    · exact .inr ⟨h4, h⟩
theorem jnF_len {R C : Nat} {ms : List UInt8} {a : Nat} : (jnF R C ms a).length ≤ (srtQ (outs R C ms a ++ ins R C ms a)).length := by
  have hn : (jnF R C ms a).Nodup := (List.nodup_iff_pairwise_ne.2 ((jnF_rise R C ms a).imp (fun h => Nat.ne_of_lt h)))
  refine hn.length_le_of_subset fun x hx => ?_
  unfold srtQ
  rw [List.mem_mergeSort, List.mem_append, insY]
  obtain ⟨h1, h2 | h2⟩ := jnF_mem.1 hx
  · exact .inl h2
  · exact .inr ⟨h1, h2⟩

set_option maxHeartbeats 2000000 in
theorem joined_any {bm gm cm R C : Nat} {ms : List UInt8} {w : World} (h : EM bm gm cm R C ms w) {a : Nat} (ha : a < ms.length) :
    Calls Tryz.prog 86 #[.pointer (some ⟨bm, 0, none⟩), .int .i64 (a : Int)] w (TabY bm gm cm R C ms w (jnF R C ms a)) := by
  have hai : 0 ≤ (a : Int) ∧ (a : Int) < (ms.length : Int) := by omega
  have hnx : nextZ R C ms (a : Int) = outs R C ms a := by unfold nextZ; rw [if_pos hai]; rfl
  have hbk : backZ R C ms (a : Int) = ins R C ms a := by unfold backZ; rw [if_pos hai]; rfl
  have HN : Hid (∀ W, EM bm gm cm R C ms W → Calls Tryz.prog 49 #[.pointer (some ⟨bm, 0, none⟩), .int .i64 (a : Int)] W (TabY bm gm cm R C ms W (outs R C ms a))) := fun W hW => hnx ▸ next_y _ hai hW
  have HB : Hid (∀ W, EM bm gm cm R C ms W → Calls Tryz.prog 112 #[.pointer (some ⟨bm, 0, none⟩), .int .i64 (a : Int)] W (TabY bm gm cm R C ms W (ins R C ms a))) := fun W hW => hbk ▸ back_y _ hai hW
  obtain ⟨m, hm1, hm2⟩ := jnF_of (R := R) (C := C) h.hN (a := a)
  have hml := jnF_len (R := R) (C := C) (ms := ms) (a := a)
  rw [← hm2] at hml ⊢
  have HM1 := Lib.hid hm1
  have HML := Lib.hid hml
  have hlo := outs_len R C ms a
  have hli := ins_len R C ms a
  have hlen := h.len
  have hN0 : 0 < ms.length := by omega
  have HE := Lib.hid h
  have HL3 : Hid ((outs R C ms a ++ ins R C ms a).length ≤ 100000) := by show _ ≤ _; rw [List.length_append]; omega
  have HL4 : Hid ((srtQ (outs R C ms a ++ ins R C ms a)).length ≤ 100000) := by show _ ≤ _; rw [srtQ_length]; exact HL3.out
  clear hnx hbk hai hm1 hm2 hml h ha
  generalize outs R C ms a = O at *
  generalize ins R C ms a = I at *
  go_enter Tryz.func86, Tryz.ntmps86
  go_wp2_with (first
    | (go_at_call 49; (with_reducible refine (HN.out w HE.out).mono ?_); rintro e w1 ⟨v1, B, rfl, hx1, hb1, hs1, ht1, ho1⟩; have HX1 := Lib.hid hx1; have HO1 := Lib.hid ho1; have HB1 := Lib.hid hb1; have HS1 := Lib.hid hs1; have HT1 := Lib.hid ht1; clear hx1 ho1 hb1 hs1 ht1)
    | (go_at_call 112; (with_reducible refine (HB.out w1 HX1.out.em).mono ?_); rintro e w2 ⟨v2, B2, rfl, hx2, _, _, _, ho2⟩; have HX2 := Lib.hid hx2; have HO2 := Lib.hid ho2; have HT2 : Hid (∀ k, TS bm gm w2 k → k < B) := fun k hk => (hx2.ts k hk).elim (HT1.out k) (fun h => absurd HX1.out.done h.2); clear hx2 ho2)
    | (at_builtin; refine wpList_append_rows rfl (.tmp 8) (.tmp 11) rfl B (v := v1) (u := v2) rfl (HX2.out.kept.row HO1.out (fun k hk hx => hx.2 HX1.out.done)) rfl HO2.out (nat_one I) (by omega) (Nat.le_trans HS1.out HX2.out.kept.size) ?_; intro v3 w3 ho3 hg3; have HO3 : Hid (w3.ownsRow B 3 1 v3 (O ++ I).length ((O ++ I).map natV)) := (by show World.ownsRow _ _ _ _ _ _ _; rw [List.length_append, List.map_append]; exact ho3); have hk3 := (Kept.refl (fun k => v1.ownBlock = some k) w2).grown hg3 (fun k e => .inl e); have hd3 : ∀ k, TS bm gm w2 k → ¬ v1.ownBlock = some k := (fun k hk hx => by have h1 := HT2.out k hk; have h2 := (HO1.out.lt k hx).1; omega); have HX3 := Lib.hid ((HX1.out.trans HX2.out).own hk3 hd3 (fun k hx => Nat.le_trans HB1.out (HO1.out.lt k hx).1)); have HT3 : Hid (∀ k, TS bm gm w3 k → k < B) := fun k hk => HT2.out k (HX2.out.ownT hk3 hd3 k hk); have HS3 := Lib.hid (Nat.le_trans HS1.out (Nat.le_trans HX2.out.kept.size hk3.size)); clear ho3 hg3 hk3 hd3)
    | (go_at_call 64; (with_reducible refine (sortQ_any HO3.out HL3.out).mono ?_); rintro e w4 ⟨rfl, ho4, hk4⟩; have HO4 := Lib.hid ho4; have hd4 : ∀ k, TS bm gm w3 k → ¬ v3.ownBlock = some k := (fun k hk hx => by have h1 := HT3.out k hk; have h2 := (HO3.out.lt k hx).1; omega); have HX4 := Lib.hid (HX3.out.own hk4 hd4 (fun k hx => Nat.le_trans HB1.out (HO3.out.lt k hx).1)); have HT4 : Hid (∀ k, TS bm gm w4 k → k < B) := fun k hk => HT3.out k (HX3.out.ownT hk4 hd4 k hk); have HS4 := Lib.hid (Nat.le_trans HS3.out hk4.size); clear ho4 hk4 hd4)
    | (go_at_call 65; (with_reducible refine (compactQ_any HO4.out HL4.out HM1.out HML.out).mono ?_); rintro e w5 ⟨v5, rfl, hv5, ho5, hk5⟩; have HO5 := Lib.hid ho5; have hd5 : ∀ k, TS bm gm w4 k → ¬ v3.ownBlock = some k := (fun k hk hx => by have h1 := HT4.out k hk; have h2 := (HO4.out.lt k hx).1; omega); have HX5 := Lib.hid (HX4.out.own hk5 hd5 (fun k hx => Nat.le_trans HB1.out (HO4.out.lt k hx).1)); have HT5 : Hid (∀ k, TS bm gm w5 k → k < B) := fun k hk => HT4.out k (HX4.out.ownT hk5 hd5 k hk); have HS5 := Lib.hid (Nat.le_trans HS4.out hk5.size); clear ho5 hk5 hv5 hd5))
  go_ret
  exact ⟨v5, B, rfl, HX5.out, HB1.out, HS5.out, HT5.out, HO5.out⟩
end Go.Proofs.YtekhlaodlagbdaaGreatDoor
