/-
  segment.Of.
-/
import Derived.Test.YtekhlaodlagbdaaGreatDoorSgT
namespace Go.Proofs.YtekhlaodlagbdaaGreatDoor
set_option maxRecDepth 100000
set_option linter.unusedSimpArgs false
open Go Go.RowKit

theorem row_low {w : World} {base base' : Nat} {e : TypeId} {size : Nat} {v : Value} {n : Nat} {xs : List Value} (h : w.ownsRow base e size v n xs) (hb : base' ≤ base) : w.ownsRow base' e size v n xs := by
  refine ⟨h.1, ?_⟩
  rcases h.2 with hn | ⟨g, cap, cur, hv, h1, rest⟩
  · exact .inl hn
  · exact .inr ⟨g, cap, cur, hv, Nat.le_trans hb h1, rest⟩

/-- A map, and its plan. -/
structure PlanAt (bm gm cm R C : Nat) (ms : List UInt8) (p bo Bs : Nat) (st : Sg.Pl) (V : Nat → Value) (vc vk : Value) (w : World) : Prop where
  em : EM bm gm cm R C ms w
  done : DoneC bm w
  pl : PlanM p bo bm ms.length Bs st V vc vk w
theorem PlanAt.still {bm gm cm R C : Nat} {ms : List UInt8} {p bo Bs : Nat} {st : Sg.Pl} {V : Nat → Value} {vc vk : Value} {w w' : World} (h : PlanAt bm gm cm R C ms p bo Bs st V vc vk w) (hb : Below w.heap.size w w') : PlanAt bm gm cm R C ms p bo Bs st V vc vk w' := by
  have hk : Kept (fun _ => False) w w' := Kept.of_below hb (Nat.le_refl _)
  exact ⟨(h.em.keptX hk (fun _ _ => id)).1, h.done.kept hk id, h.pl.still hk⟩

/-- What stands behind some cells. -/
structure OfI (bm gm cm R C : Nat) (ms : List UInt8) (p bo S : Nat) (w : World) (st : Sg.Pl) (W : World) : Prop where
  em : EM bm gm cm R C ms W
  kept : Kept (fun k => k = bm) w W
  new : ∀ k, TS bm gm W k → TS bm gm w k ∨ w.heap.size ≤ k
  nts : ∀ k, TS bm gm W k → k ≠ p ∧ k ≠ bo
  lo : w.heap.size ≤ p ∧ w.heap.size ≤ bo ∧ p < S ∧ bo < S
  hS : S ≤ W.heap.size
  pl : (st.cells = [] ∧ PlanM p bo bm ms.length S st (fun _ => .slice none 0 0) (.slice none 0 0) (.slice none 0 0) W) ∨
    (DoneC bm W ∧ ∃ Bs V vc vk, S ≤ Bs ∧ Bs ≤ W.heap.size ∧ (∀ k, TS bm gm W k → k < Bs) ∧ PlanM p bo bm ms.length Bs st V vc vk W)
section
variable {bm gm cm R C : Nat} {ms : List UInt8} {p bo S : Nat} {w W W' : World} {st : Sg.Pl}
/-- With no segments yet any bound does. -/
theorem plan_none {Bs : Nat} (h : PlanM p bo bm ms.length S st (fun _ => .slice none 0 0) (.slice none 0 0) (.slice none 0 0) W) (hc : st.cells = []) (hB : S ≤ Bs) : PlanM p bo bm ms.length Bs st (fun _ => .slice none 0 0) (.slice none 0 0) (.slice none 0 0) W := by
  refine ⟨h.blk, h.of, h.len, ?_, ?_, fun s hs => ?_, Nat.lt_of_lt_of_le h.hp hB, Nat.lt_of_lt_of_le h.ho hB, h.hpo⟩
  · rcases h.rc.2 with ⟨_, h1⟩ | ⟨g, cap, cur, e, _⟩
    · exact ⟨h.rc.1, .inl ⟨rfl, h1⟩⟩
    · cases e
  · rcases h.rk.2 with ⟨_, h1⟩ | ⟨g, cap, cur, e, _⟩
    · exact ⟨h.rk.1, .inl ⟨rfl, h1⟩⟩
    · cases e
  · rw [hc] at hs; simp at hs
/-- One more segment. -/
theorem OfI.step (h : OfI bm gm cm R C ms p bo S w st W) {v : Value} {l : List Nat} {W1 : World} {B : Nat} (hx : JX bm gm cm R C ms W W1) (hB : W.heap.size ≤ B) (hB1 : B ≤ W1.heap.size) (hT : ∀ k, TS bm gm W1 k → k < B) (ho : W1.ownsRow B 3 1 v l.length (l.map natV)) :
    ∃ Bs V vc vk, S ≤ Bs ∧ Bs ≤ W1.heap.size ∧ (∀ k, TS bm gm W1 k → k < Bs) ∧ PlanM p bo bm ms.length Bs st V vc vk W1 ∧ W1.ownsRow Bs 3 1 v l.length (l.map natV) ∧ (l ≠ [] → v.ownBlock ≠ vk.ownBlock) := by
  have hXp : ¬ (p = bm ∧ ¬ DoneC bm W) := fun e => by have := h.nts bm (.inr (.inl rfl)); omega
  have hXo : ¬ (bo = bm ∧ ¬ DoneC bm W) := fun e => by have := h.nts bm (.inr (.inl rfl)); omega
  rcases h.pl with ⟨hc, hp⟩ | ⟨hd, Bs, V, vc, vk, h1, h2, h3, hp⟩
  · have hp1 := hp.kept hx.kept hXp hXo (fun k e => by cases e) (fun k e => by cases e) (fun s hs => by rw [hc] at hs; simp at hs)
    refine ⟨B, _, _, _, Nat.le_trans h.hS hB, hB1, hT, plan_none hp1 hc (Nat.le_trans h.hS hB), ho, fun hl e => ?_⟩
    rcases ho.2 with ⟨_, h0⟩ | ⟨g, cap, cur, rfl, _⟩
    · exact hl (List.eq_nil_of_length_eq_zero h0)
    · cases e
  · have hb := hx.below hd
    have hk : Kept (fun _ => False) W W1 := Kept.of_below hb (Nat.le_refl _)
    refine ⟨Bs, V, vc, vk, h1, Nat.le_trans h2 hk.size, fun k hk' => ?_, hp.still hk, row_low ho (Nat.le_trans h2 hB), fun hl e => ?_⟩
    · rcases hx.ts k hk' with h4 | ⟨_, h4⟩
      · exact h3 k h4
      · exact absurd hd h4
    · rcases ho.2 with ⟨_, h0⟩ | ⟨g, cap, cur, rfl, hg, _⟩
      · exact hl (List.eq_nil_of_length_eq_zero h0)
      · have := (hp.rk.lt g e.symm).2
        omega
theorem OfI.added (h : OfI bm gm cm R C ms p bo S w st W) {W1 W2 : World} {st' : Sg.Pl} (hx : JX bm gm cm R C ms W W1) {Bs : Nat} (h1 : S ≤ Bs) (h2 : Bs ≤ W1.heap.size) (h3 : ∀ k, TS bm gm W1 k → k < Bs) (hp : ∃ V vc vk, PlanM p bo bm ms.length Bs st' V vc vk W2) (hk : Kept (fun k => k = p ∨ k = bo ∨ Bs ≤ k) W1 W2) : OfI bm gm cm R C ms p bo S w st' W2 := by
  have hnt : ∀ k, TS bm gm W1 k → k ≠ p ∧ k ≠ bo := fun k hk' => by
    rcases hx.ts k hk' with h4 | ⟨h4, _⟩
    · exact h.nts k h4
    · have := h.lo; have := h.hS; omega
  have hX : ∀ k, TS bm gm W1 k → ¬ (k = p ∨ k = bo ∨ Bs ≤ k) := fun k hk' hx' => by
    have := hnt k hk'
    have := h3 k hk'
    omega
  obtain ⟨he, ht⟩ := hx.em.keptX hk hX
  obtain ⟨V, vc, vk, hp⟩ := hp
  have hlo := h.lo
  have hws : w.heap.size ≤ W.heap.size := h.kept.size
  refine ⟨he, (h.kept.trans hx.kept (fun i _ hi => hi.1)).trans hk (fun i hi hx' => by omega), fun k hk' => ?_, fun k hk' => hnt k (ht k hk'), h.lo, Nat.le_trans h.hS (Nat.le_trans hx.kept.size hk.size), .inr ⟨hx.done.kept hk (hX bm (.inr (.inl rfl))), Bs, V, vc, vk, h1, Nat.le_trans h2 hk.size, fun k hk' => h3 k (ht k hk'), hp⟩⟩
  rcases hx.ts k (ht k hk') with h4 | ⟨h4, _⟩
  · exact h.new k h4
  · exact .inr (Nat.le_trans hws h4)
end

/-- What Of leaves. -/
def OfP (bm gm cm R C : Nat) (ms : List UInt8) (w : World) (e : Ending) (w' : World) : Prop :=
  ∃ p bo Bs V vc vk, e = .returned (.tuple #[.pointer (some ⟨p, 0, none⟩), .int .i64 0]) ∧ PlanAt bm gm cm R C ms p bo Bs (planF R C ms) V vc vk w' ∧ Kept (fun k => k = bm) w w' ∧ w.heap.size ≤ p

set_option maxHeartbeats 2000000 in
theorem of_any {bm gm cm R C : Nat} {ms : List UInt8} {w : World} (hE : EM bm gm cm R C ms w) (hf : frees ms ≠ []) :
    Calls Tryz.prog 16 #[.pointer (some ⟨bm, 0, none⟩)] w (OfP bm gm cm R C ms w) := by
  have hlen := hE.len
  have hJn := jnF_jn (ms := ms) hE.hC hE.hN
  have hN0 : 0 < ms.length := by
    rcases Nat.eq_zero_or_pos ms.length with h | h
    · exact absurd (by unfold frees freeK; rw [h]; rfl) hf
    · exact h
  obtain ⟨N, hN⟩ : ∃ N, N = ms.length := ⟨_, rfl⟩
  have HC : Hid (∀ W, EM bm gm cm R C ms W → Calls Tryz.prog 15 #[.pointer (some ⟨bm, 0, none⟩)] W fun e w' => e = .returned (.int .i64 (N : Int)) ∧ W = w') := fun W h => by rw [hN]; exact cells_any bm _ _ _ W h.c2
  have HE := Lib.hid hE
  have HN := Lib.hid hN
  have d0 : ((N : Int) == 0) = false := by
    have : ¬ (N : Int) = 0 := by omega
    simpa using this
  have hk1 : Kept (fun _ => False) w (w.alloc (.cells #[.int .i64 (-1)] 3)) := (Kept.refl _ w).alloc _
  have hE1 := (hE.keptX hk1 (fun _ _ => id))
  have HE1 := Lib.hid hE1
  have HRep := Lib.hid (repeat_any (w := w.alloc (.cells #[.int .i64 (-1)] 3)) (vb := w.heap.size) (c := 1) (N := N) (x := -1) (heap_alloc_new w _) (by omega) (by omega))
  have HF := Lib.hid hf
  have HJn := Lib.hid hJn
  clear hE hN hk1 hE1 hf hJn
  go_enter Tryz.func16, Tryz.ntmps16
  go_wp2
  go_step3
  go_wp2_with (first
    | (go_at_call 15; (with_reducible refine (HC.out _ HE.out).mono ?_); rintro e w' ⟨rfl, rfl⟩)
    | (go_at_call 15; (with_reducible refine (HC.out _ HE1.out.1).mono ?_); rintro e w' ⟨rfl, rfl⟩)
    | (go_at_call 52; (with_reducible refine HRep.out.mono ?_); rintro e w2 ⟨bo, rfl, hb2, hs2, hbel2⟩))
  generalize hw3 : w2.alloc (.cells #[.pointer (some ⟨bm, 0, none⟩), .slice (some ⟨bo, 0, none⟩) N N, .slice none 0 0, .slice none 0 0] 66) = w3
  have hsw : w.heap.size + 1 ≤ w2.heap.size := by have := hbel2.size; simpa using this
  have hbo1 : w.heap.size + 1 ≤ bo := by simpa using hs2
  have hk2 : Kept (fun _ => False) w w2 := ((Kept.refl _ w).alloc _).trans (Kept.of_below (X := fun _ => False) hbel2 (Nat.le_refl _)) (fun _ _ h => h)
  have hk3 : Kept (fun _ => False) w w3 := by rw [← hw3]; exact hk2.alloc _
  obtain ⟨hE3, hT3⟩ := HE.out.keptX hk3 (fun _ _ => id)
  have hp3 : w3.heap[w2.heap.size]? = some (.cells #[.pointer (some ⟨bm, 0, none⟩), .slice (some ⟨bo, 0, none⟩) N N, .slice none 0 0, .slice none 0 0] 66 (0, 0)) := by rw [← hw3]; exact heap_alloc_new w2 _
  have ho3 : w3.heap[bo]? = some (.cells (List.replicate N (.int .i64 (-1))).toArray 3 (0, 0)) := by rw [← hw3]; exact (((Kept.refl (fun _ => False) w2).alloc _).block bo (blk_lt hb2) id).trans hb2
  have hs3 : w3.heap.size = w2.heap.size + 1 := by rw [← hw3]; simp
  have hbolt : bo < w2.heap.size := blk_lt hb2
  have HAl := Lib.hid (all_any bm gm cm ms w3 (by omega) hE3.lt (World.block_lt_of_cell? w3 ⟨gm, 0, none⟩ (hE3.mark 0 hN0)) hE3.c2 (fun j hj => hE3.mark j hj))
  obtain ⟨p, hp⟩ : ∃ p, p = w2.heap.size := ⟨_, rfl⟩
  rw [← hp] at hp3 hs3 hbolt ⊢
  have HE3 := Lib.hid hE3
  have HT3 := Lib.hid hT3
  have HP3 := Lib.hid hp3
  have HO3 := Lib.hid ho3
  have HK3 := Lib.hid hk3
  have hpw : w.heap.size < p := by omega
  clear hw3 hb2 hs2 hbel2 hk2 hk3 hE3 hT3 hp3 ho3 HRep HE1 hp hsw HC
  go_step3
  go_wp2_with fail
  refine HAl.out.mono ?_
  rintro e w4 ⟨a, c, rfl, hown, hb4⟩
  obtain ⟨L, hL⟩ : ∃ L, L = frees ms := ⟨_, rfl⟩
  obtain ⟨F, hF⟩ : ∃ F, F = L.length := ⟨_, rfl⟩
  rw [← hL] at hown ⊢
  have hF0 : 0 < L.length := by
    rcases Nat.eq_zero_or_pos L.length with h | h
    · exact absurd (hL ▸ List.eq_nil_of_length_eq_zero h) HF.out
    · exact h
  obtain ⟨ga, c', hcc, hga, hcl⟩ := row_cells hown hF0
  have hgl : ga < w4.heap.size := (World.block_lt_of_cell? w4 ⟨ga, 0, none⟩ (hcl 0 hF0))
  cases hcc
  have hk4 : Kept (fun _ => False) w3 w4 := Kept.of_below hb4 (Nat.le_refl _)
  obtain ⟨hE4, hT4⟩ := HE3.out.keptX hk4 (fun _ _ => id)
  have hst : OfI bm gm cm R C ms p bo w4.heap.size w (Sg.planK ms.length (jnF R C ms) (L.take 0)) w4 := by
    refine ⟨hE4, (HK3.out.mono (fun _ _ h => h.elim)).trans hk4 (fun _ _ h => h.elim), fun k hk => .inl (HT3.out k (hT4 k hk)), fun k hk => ?_, ⟨by omega, by omega, by have := hk4.size; omega, by have := hk4.size; omega⟩, Nat.le_refl _, .inl ⟨rfl, ?_⟩⟩
    · have := HE.out.tlt hN0 k (HT3.out k (hT4 k hk))
      omega
    · refine ⟨?_, ?_, by simp [Sg.planK], World.ownsRow_nil _ _ _ _, World.ownsRow_nil _ _ _ _, fun s hs => by simp [Sg.planK] at hs, by have := hk4.size; omega, by have := hk4.size; omega, by omega⟩
      · rw [← HN.out]
        exact (hk4.block p (by omega) id).trans HP3.out
      · have : (((Sg.planK ms.length (jnF R C ms) (L.take 0)).of.map sgV).toArray) = (List.replicate N (.int .i64 (-1))).toArray := by
          rw [List.take_zero, HN.out]
          simp [Sg.planK, sgV]
        rw [this]
        exact (hk4.block bo (by omega) id).trans HO3.out
  rw [← hF]
  obtain ⟨I, hI⟩ : ∃ I : Nat → World → Prop, I = fun k W => OfI bm gm cm R C ms p bo w4.heap.size w (Sg.planK ms.length (jnF R C ms) (L.take k)) W ∧ Kept (fun k => k = bm ∨ k = p ∨ k = bo ∨ w4.heap.size ≤ k) w4 W := ⟨_, rfl⟩
  have HII := Lib.hid hI
  have HI0 : Hid (I 0 w4) := by show I 0 w4; rw [hI]; exact ⟨hst, Kept.refl _ _⟩
  have HCL := Lib.hid hcl
  have HL := Lib.hid hL
  have HFl := Lib.hid hF
  have hgne : ga ≠ bm ∧ ga ≠ p ∧ ga ≠ bo := by
    have := HE.out.lt
    omega
  have hF2 : F ≤ 1024 := by
    have := freeK_le ms ms.length
    have e : F = (freeK ms ms.length).length := by rw [hF, hL]; rfl
    omega
  clear hI hst hcl hF hF0 hk4 hE4 hT4 hown hb4 HAl HP3 HO3 HT3 HE3 HK3
  go_wp2
  go_loopw [20] (fun i wr => ∃ j : Nat, j ≤ F ∧ i = .int .i64 (j : Int) ∧ I j wr) (fun i _ => F - (intOf i).toNat)
  case atStart => exact ⟨0, Nat.zero_le _, rfl, HI0.out⟩
  case round =>
    obtain ⟨j, hj, rfl, hi⟩ := hrel
    rename World => W
    rw [HII.out] at hi
    obtain ⟨hOf, hk⟩ := hi
    clear HI0
    by_cases hjF : j < F
    · have hjl : j < L.length := by rw [← HFl.out]; exact hjF
      have fx := hk.cell (HCL.out j hjl) (fun e => by simp only at e; omega)
      have hxm : L.getD j 0 ∈ frees ms := by
        rw [← HL.out, show L.getD j 0 = L[j] by simp [List.getD, hjl]]
        exact List.getElem_mem hjl
      have hxN : L.getD j 0 < ms.length := by
        have h1 := List.mem_filter.1 hxm
        exact List.mem_range.1 h1.1
      have hsn : L.take (j + 1) = L.take j ++ [L.getD j 0] := by
        rw [List.take_succ_eq_append_getElem hjl]
        simp [List.getD, hjl]
      have hst := Sg.planK_snoc ms.length (jnF R C ms) (L.take j) (L.getD j 0)
      rw [← hsn] at hst
      obtain ⟨pl1, pl2, pl3⟩ := Sg.plan_lens ms.length (jnF R C ms) (L.take j)
      have hcl2 : (Sg.planK ms.length (jnF R C ms) (L.take j)).cells.length ≤ 10000 := by
        have h1 : (L.take j).length ≤ j := by rw [List.length_take]; omega
        omega
      have hpm : ∃ Bs V vc vk, PlanM p bo bm ms.length Bs (Sg.planK ms.length (jnF R C ms) (L.take j)) V vc vk W := by
        rcases hOf.pl with ⟨_, h⟩ | ⟨_, Bs, V, vc, vk, _, _, _, h⟩
        · exact ⟨_, _, _, _, h⟩
        · exact ⟨Bs, V, vc, vk, h⟩
      obtain ⟨Bs0, V0, vc0, vk0, hpm0⟩ := hpm
      have d1 : W.cell? ⟨p, 1, none⟩ = some (.slice (some ⟨bo, 0, none⟩) N N) := by rw [blk_cell hpm0.blk, HN.out]; rfl
      have d2 : W.cell? ⟨bo, L.getD j 0, none⟩ = some (.int .i64 ((Sg.planK ms.length (jnF R C ms) (L.take j)).of.getD (L.getD j 0) 0)) := by
        rw [blk_cell hpm0.of]
        exact of_cell _ (by rw [pl1]; exact hxN)
      have HOf := Lib.hid hOf
      have HK := Lib.hid hk
      have HOr := Lib.hid (ordered_any hOf.em hxN)
      obtain ⟨ol1, ol2, ol3, ol4, ol5⟩ := Sg.ord_list HJn.out hxN
      unfold Sg.stepS at hst
      have HSt := Lib.hid hst
      have HN' : Hid (∀ W', OfI bm gm cm R C ms p bo w4.heap.size w (Sg.planK ms.length (jnF R C ms) (L.take (j + 1))) W' → Kept (fun k => k = bm ∨ k = p ∨ k = bo ∨ w4.heap.size ≤ k) w4 W' → ∃ j' : Nat, j' ≤ F ∧ Value.int .i64 ((j : Int) + 1) = .int .i64 (j' : Int) ∧ I j' W') := fun W' h1 h2 => ⟨j + 1, by omega, by go_num, by rw [HII.out]; exact ⟨h1, h2⟩⟩
      have k0 : (0 : Int) ≤ (j : Int) := by omega
      have k1 : (j : Int) < (F : Int) := by omega
      have k2 : (0 : Int) ≤ ((L.getD j 0 : Nat) : Int) := by omega
      have k3 : ((L.getD j 0 : Nat) : Int) < (N : Int) := by have := HN.out; omega
      clear hOf hk hxm hsn hst hpm0
      obtain ⟨x, hx⟩ : ∃ x, x = L.getD j 0 := ⟨_, rfl⟩
      obtain ⟨o, hoe⟩ : ∃ o, o = (Sg.planK ms.length (jnF R C ms) (L.take j)).of.getD x 0 := ⟨_, rfl⟩
      rw [← hx] at fx d2 HOr HSt ol1 ol2 ol3 ol4 ol5 k2 k3 hxN
      rw [← hoe] at d2 HSt
      clear hx hoe
      by_cases h0 : 0 ≤ o
      · have e1 : Sg.planK ms.length (jnF R C ms) (L.take (j + 1)) = Sg.planK ms.length (jnF R C ms) (L.take j) := by rw [HSt.out, if_pos h0]
        have HR := Lib.hid (HN'.out W (by rw [e1]; exact HOf.out) HK.out)
        have d3 : decide (0 ≤ o) = true := decide_eq_true h0
        clear e1 HOf HK HOr HSt HN' ol1 ol2 ol3 ol4 ol5 pl1 pl2 pl3 hcl2
        go_wp2_with fail
        go_roundw
        case rel => exact HR.out
        case measure => simp [intOf]; omega
      · have e1 : Sg.planK ms.length (jnF R C ms) (L.take (j + 1)) = (Sg.planK ms.length (jnF R C ms) (L.take j)).add (Sg.ordF ms.length (jnF R C ms) x).1 (Sg.ordF ms.length (jnF R C ms) x).2 := by rw [HSt.out, if_neg h0]
        have d3 : decide (0 ≤ o) = false := decide_eq_false h0
        have HE1 := Lib.hid e1
        clear e1 HSt
        obtain ⟨lo, hlo⟩ : ∃ lo, lo = Sg.ordF ms.length (jnF R C ms) x := ⟨_, rfl⟩
        have HOr' : Hid (Calls Tryz.prog 54 #[.pointer (some ⟨bm, 0, none⟩), .int .i64 (x : Int)] W fun e w' => ∃ v B, e = .returned (.tuple #[v, .int .i64 ((lo.2 : Nat) : Int)]) ∧ JX bm gm cm R C ms W w' ∧ W.heap.size ≤ B ∧ B ≤ w'.heap.size ∧ (∀ k, TS bm gm w' k → k < B) ∧ w'.ownsRow B 3 1 v lo.1.length (lo.1.map natV)) := by rw [hlo]; exact HOr.out
        rw [← hlo] at ol1 ol2 ol3 ol4 ol5 HE1
        have HL1 := Lib.hid ol1
        have HL3 := Lib.hid ol3
        have HL5 := Lib.hid ol5
        clear hlo HOr ol1 ol2 ol3 ol4 ol5
        go_wp2_with fail
        refine HOr'.out.mono ?_
        rintro e w5 ⟨v5, B5, rfl, hx5, hB5, hs5, hT5, ho5⟩
        obtain ⟨Bs, V, vc, vk, b1, b2, b3, hp5, hr5, hne5⟩ := HOf.out.step hx5 hB5 hs5 hT5 ho5
        have hl0 : lo.1 ≠ [] := fun e => by have := HL1.out; rw [e] at this; simp at this
        have HAd := Lib.hid (add_any (kd := lo.2) hp5 hr5 (hne5 hl0) HL1.out HL3.out (by have := HL5.out; omega) hcl2 (by rw [pl3]; exact hcl2) b2)
        have HFin : Hid (∀ w6, (∃ V vc vk, PlanM p bo bm ms.length Bs ((Sg.planK ms.length (jnF R C ms) (L.take j)).add lo.1 lo.2) V vc vk w6) → Kept (fun k => k = p ∨ k = bo ∨ Bs ≤ k) w5 w6 → ∃ j' : Nat, j' ≤ F ∧ Value.int .i64 ((j : Int) + 1) = .int .i64 (j' : Int) ∧ I j' w6) := fun w6 h1 h2 => by
          refine HN'.out w6 ?_ ?_
          · rw [HE1.out]
            exact HOf.out.added hx5 b1 b2 b3 h1 h2
          · refine (HK.out.trans hx5.kept (fun i _ hi => .inl hi.1)).trans h2 (fun i _ hi => ?_)
            rcases hi with h | h | h
            · exact .inr (.inl h)
            · exact .inr (.inr (.inl h))
            · exact .inr (.inr (.inr (Nat.le_trans b1 h)))
        obtain ⟨a5, c5, rfl⟩ := row_slice ho5
        clear hx5 hB5 hs5 hT5 ho5 b1 b2 b3 hp5 hr5 hne5 HOf HK HN' HE1 hl0
        generalize lo.1.length = ll at *
        go_wp2_with (go_at_call 53; (with_reducible refine HAd.out.mono ?_); rintro e w6 ⟨rfl, h61, h62⟩; have HG := Lib.hid (HFin.out w6 h61 h62); clear h61 h62)
        go_roundw
        case rel => exact HG.out
        case measure => simp [intOf]; omega
    · obtain rfl : j = F := by omega
      have hpf : planF R C ms = Sg.planK ms.length (jnF R C ms) (L.take j) := by
        unfold planF
        rw [List.take_of_length_le (by rw [← HFl.out]; exact Nat.le_refl _), HL.out]
      have hfin : OfP bm gm cm R C ms w (.returned (.tuple #[.pointer (some ⟨p, 0, none⟩), .int .i64 0])) W := by
        have hlo := hOf.lo
        rcases hOf.pl with ⟨hc, _⟩ | ⟨hd, Bs, V, vc, vk, _, _, _, hp⟩
        · exfalso
          refine Sg.planK_ne ms.length (jnF R C ms) (l := L.take j) ?_ ?_ hc
          · rw [List.length_take, ← HFl.out]
            rcases Nat.eq_zero_or_pos j with h | h
            · exact absurd (HL.out ▸ List.eq_nil_of_length_eq_zero (by rw [← HFl.out, h])) HF.out
            · omega
          · intro x hx
            have h1 := List.mem_of_mem_take hx
            rw [HL.out] at h1
            exact List.mem_range.1 (List.mem_filter.1 h1).1
        · exact ⟨p, bo, Bs, V, vc, vk, rfl, ⟨hOf.em, hd, by rw [hpf]; exact hp⟩, hOf.kept, hlo.1⟩
      have HFi := Lib.hid hfin
      clear hOf hk hpf hfin
      go_wp2_with fail
      rw [Exit.noGoto_ret]
      exact bodyPost_ret (v := .tuple #[.pointer (some ⟨p, 0, none⟩), .int .i64 0]) (by simp [results, Tryz.results16, go_sem]) rfl HFi.out
end Go.Proofs.YtekhlaodlagbdaaGreatDoor
