/-
  The document's pile: Push.
-/
import Derived.Test.YtdhpphkkpjldfabPRef2
namespace Go.Proofs.Ytdhpphkkpjldfab
set_option maxRecDepth 100000
open Go Go.RowKit Pq

theorem ins_at {x : It} : ∀ {s : List It} {k : Nat}, (∀ i, i < k → lt x (at_ s i) = false) → (k = s.length ∨ k < s.length ∧ lt x (at_ s k) = true) → ins x s = s.take k ++ x :: s.drop k
  | [], k, _, hk => by simp at hk; subst hk; rfl
  | y :: s, 0, _, hk => by
    rcases hk with hk | ⟨_, hk⟩
    · simp at hk
    · rw [at_cons_zero] at hk
      simp [ins, hk]
  | y :: s, k + 1, h, hk => by
    have h0 := h 0 (by omega)
    rw [at_cons_zero] at h0
    have ih := ins_at (x := x) (s := s) (k := k) (fun i hi => by have := h (i + 1) (by omega); rwa [at_cons_succ] at this) (by rw [at_cons_succ] at hk; simpa using hk)
    simp [ins, h0, ih]

theorem add_add' (a : Addr) (i j : Nat) : (a.add i).add j = a.add (i + j) := by
  unfold Addr.add
  by_cases hi : i = 0 <;> by_cases hj : j = 0 <;> simp [hi, hj, Nat.add_assoc]

theorem ItemsAt.flat {w : World} {a : Addr} {l : List It} (h : ItemsAt w (some a) l) : ∀ j u, (csL l)[j]? = some u → w.cell? (a.add j) = some u := by
  intro j u hj
  have hlt : j < (csL l).length := (List.getElem?_eq_some_iff.1 hj).1
  rw [csL_length] at hlt
  have hk : j / 3 < l.length := by omega
  have hr : j % 3 < 3 := by omega
  have e : j = j / 3 * 3 + j % 3 := by omega
  rw [e, csL_get hk hr] at hj
  obtain ⟨a', e', _, h0, h1, h2⟩ := h (j / 3) hk
  cases e'
  rw [e, ← add_add']
  match hm : j % 3, hj with
  | 0, hj => simp [It.cs] at hj; subst hj; simpa [Addr.add] using h0
  | 1, hj => simp [It.cs] at hj; subst hj; exact h1
  | 2, hj => simp [It.cs] at hj; subst hj; exact h2
  | k + 3, _ => omega

/-- A row as items. -/
theorem row_items {w : World} {base g cap : Nat} {l : List It} {e : TypeId} (h : w.ownsRow base e 3 (.slice (some ⟨g, 0, none⟩) l.length cap) l.length (csL l)) : ItemsAt w (some ⟨g, 0, none⟩) l := by
  intro k hk
  have hb : ∀ i, (⟨g, 0, none⟩ : Addr).add i = ⟨g, i, none⟩ := by intro i; unfold Addr.add; split <;> simp_all
  obtain ⟨h0, h1, h2⟩ := row_cells h hk
  refine ⟨⟨g, 0, none⟩, rfl, (show g < w.heap.size from World.block_lt_of_cell? w _ h0), ?_, ?_, ?_⟩
  · rw [hb]; exact h0
  · rw [hb]; exact h1
  · rw [hb]; exact h2

theorem Try.infoRItem : (Try.prog.info? 37).map (fun i => (i.zero, i.size, i.bytes)) = some (some (.agg #[.int .i64 0, .int .i64 0, .int .i64 0]), 3, 24) := by kernel_rfl

def RPush (w : World) (b : Nat) (s : List It) (x : It) (e : Ending) (w' : World) : Prop :=
  e = .returned (.tuple #[]) ∧ ∃ A, RefAt w' b A (ins x s) ∧ Kept (fun k => k = b) w w' ∧ ∀ a, A = some a → w.heap.size ≤ a.block

/-- Before the place is found. -/
structure RMid (w : World) (b : Nat) (A : Option Addr) (s : List It) (x : It) (wr : World) : Prop where
  ref : RefAt wr b A s
  kept : Kept (fun _ => False) w wr
  box : wr.heap[w.heap.size]? = some (.cells #[.int .i64 x.c, .int .i64 x.t, .int .i64 x.i] 37 (0, 0))
theorem RMid.grow {w wr w' : World} {b : Nat} {A : Option Addr} {s : List It} {x : It} (h : RMid w b A s x wr) (hk : Kept (fun _ => False) wr w') : RMid w b A s x w' :=
  ⟨h.ref.grow hk, h.kept.trans hk (fun _ _ => id), (hk.block _ (blk_lt h.box) id).trans h.box⟩

theorem rmid_1 {w W W1 : World} {b cap : Nat} {A : Option Addr} {s : List It} {x : It} (h : RMid w b A s x W) (hg : W.grownBy W1 (Value.slice none 0 0).ownBlock) (hc : W.cell? ⟨b, 0, none⟩ = some (.slice A s.length cap)) :
    RMid w b A s x W1 ∧ W1.cell? ⟨b, 0, none⟩ = some (.slice A s.length cap) ∧ W1.cell? ⟨w.heap.size, 0, none⟩ = some (.int .i64 x.c) ∧ W1.cell? ⟨w.heap.size, 1, none⟩ = some (.int .i64 x.t) ∧ W1.cell? ⟨w.heap.size, 2, none⟩ = some (.int .i64 x.i) := by
  have hk : Kept (fun _ => False) W W1 := ⟨hg.os, hg.tape, hg.output, hg.size, fun k hk _ => hg.block k hk (by simp [Value.ownBlock])⟩
  have h1 := h.grow hk
  refine ⟨h1, hk.cell hc id, ?_, ?_, ?_⟩
  · rw [blk_cell h1.box]; rfl
  · rw [blk_cell h1.box]; rfl
  · rw [blk_cell h1.box]; rfl

theorem rmid_2 {w W1 W2 : World} {b cap k : Nat} {A : Option Addr} {s : List It} {x : It} {v1 : Value} {xs : List Value} {o : Obj} (h : RMid w b A s x W1) (hA : ∀ a, A = some a → a.block < w.heap.size) (hg : (W1.alloc o).grownBy W2 v1.ownBlock)
    (ho : W1.ownsRow w.heap.size 37 3 v1 k xs) (hc : W1.cell? ⟨b, 0, none⟩ = some (.slice A s.length cap)) (hb : b < w.heap.size := by assumption) :
    RefAt W2 b A s ∧ Kept (fun k => w.heap.size ≤ k) w W2 ∧ W2.cell? ⟨b, 0, none⟩ = some (.slice A s.length cap) ∧ W2.frozen? ⟨b, 0, none⟩ = false := by
  have hv : ∀ i, some i = v1.ownBlock → w.heap.size ≤ i := fun i e => (ho.lt i e.symm).1
  have hk : Kept (fun i => some i = v1.ownBlock) W1 W2 := ((Kept.refl _ W1).alloc o).grown hg (fun i e => .inl e.symm)
  have hr := h.ref.kept hk (fun e => by have := hv b e; omega) (fun a e e' => by have := hv _ e'; have := hA a e; omega)
  refine ⟨hr, h.kept.mono (fun _ _ h => h.elim) |>.trans hk (fun i _ e => hv i e), hk.cell hc (fun e => by have := hv b e; omega), hr.froz⟩

theorem csL_drop (l : List It) (n : Nat) : (csL l).drop (n * 3) = csL (l.drop n) := by
  have h1 := List.take_append_drop n l
  have h2 : csL l = csL (l.take n) ++ csL (l.drop n) := by rw [← csL_append, h1]
  by_cases h : n ≤ l.length
  · rw [h2, List.drop_append_of_le_length (by rw [csL_length, List.length_take]; omega), List.drop_of_length_le (by rw [csL_length, List.length_take]; omega)]
    rfl
  · rw [List.drop_of_length_le (by rw [csL_length]; omega), List.drop_of_length_le (by omega)]
    rfl
theorem rpush_last {w W2 W3 : World} {b cap k g cap3 : Nat} {A : Option Addr} {s : List It} {x : It} {v2 : Value} (hr : RefAt W2 b A s) (hk2 : Kept (fun k => w.heap.size ≤ k) w W2) (hg : W2.grownBy W3 v2.ownBlock)
    (ho2 : W2.ownsRow w.heap.size 37 3 v2 (k + 1) (csL (s.take k) ++ x.cs)) (ho : W3.ownsRow w.heap.size 37 3 (.slice (some ⟨g, 0, none⟩) (k + 1 + (s.length - k)) cap3) (k + 1 + (s.length - k)) (csL (s.take k) ++ (x.cs ++ csL (s.drop k))))
    (hi : ins x s = s.take k ++ x :: s.drop k) (hk : k ≤ s.length) (hc : W2.cell? ⟨b, 0, none⟩ = some (.slice A s.length cap)) (hb : b < w.heap.size := by assumption) :
    W3.cell? ⟨b, 0, none⟩ = some (.slice A s.length cap) ∧ W3.frozen? ⟨b, 0, none⟩ = false ∧ RPush w b s x (.returned (.tuple #[])) (W3.setCell ⟨b, 0, none⟩ (.slice (some ⟨g, 0, none⟩) (k + 1 + (s.length - k)) cap3)) := by
  have hv : ∀ i, some i = v2.ownBlock → w.heap.size ≤ i := fun i e => (ho2.lt i e.symm).1
  have hkk : Kept (fun i => some i = v2.ownBlock) W2 W3 := kept_row hg
  have hc3 := hkk.cell hc (fun e => by have := hv b e; omega)
  have hf3 : W3.frozen? ⟨b, 0, none⟩ = false := by
    rw [hkk.frozen (p := ⟨b, 0, none⟩) hr.lt (fun e => by have := hv b e; omega)]; exact hr.froz
  have hgb := (ho.lt g rfl).1
  have hlen : k + 1 + (s.length - k) = (ins x s).length := by rw [ins_length]; omega
  have hcs : csL (s.take k) ++ (x.cs ++ csL (s.drop k)) = csL (ins x s) := by
    rw [hi, csL_append]
    simp [csL]
  rw [hlen, hcs] at ho
  rw [hlen]
  have hset : Kept (fun i => i = b) W3 (W3.setCell ⟨b, 0, none⟩ (.slice (some ⟨g, 0, none⟩) (ins x s).length cap3)) := (Kept.refl (fun i => i = b) W3).setCell (p := ⟨b, 0, none⟩) (.inl rfl) _
  have ho' := hset.row ho (fun k hk e => by have := (ho.lt k hk).1; omega)
  refine ⟨hc3, hf3, rfl, some ⟨g, 0, none⟩, ⟨⟨cap3, World.cell?_setCell_same _ _ _ (by rw [hc3]), ?_, fun e => by cases e⟩, ?_, row_items ho', ?_⟩, ?_, ?_⟩
  · rcases ho.2 with ⟨e, _⟩ | ⟨g', cap', cur, e, _, _, hn, _⟩
    · cases e
    · cases e; exact hn
  · rw [World.frozen?_setCell]; exact hf3
  · intro a e
    cases e
    exact ⟨fun e => by simp only at e; omega, (ho'.lt g rfl).2⟩
  · exact (hk2.mono (Y := fun i => i = b) (fun i hi h => by omega)).trans ((hkk.mono (Y := fun i => i = b ∨ some i = v2.ownBlock) (fun _ _ e => .inr e)).trans hset (fun _ _ e => .inl e)) (fun i hi e => by rcases e with e | e; exact e; have := hv i e; omega)
  · intro a e
    cases e
    exact hgb

set_option maxHeartbeats 2000000 in
theorem rpush_any {w : World} {b : Nat} {A : Option Addr} {s : List It} (h : RefAt w b A s) (x : It) (hl : s.length ≤ 10000) :
    Calls Try.prog 10 #[.pointer (some ⟨b, 0, none⟩), .agg #[.int .i64 x.c, .int .i64 x.t, .int .i64 x.i]] w (RPush w b s x) := by
  obtain ⟨i0, hi, hz0, hz1, hz2⟩ := info_parts Try.infoRItem
  have HM0 : Hid (RMid w b A s x (w.alloc (.cells #[.int .i64 x.c, .int .i64 x.t, .int .i64 x.i] 37))) :=
    ⟨h.grow ((Kept.refl _ w).alloc _), (Kept.refl _ w).alloc _, heap_alloc_new w _⟩
  have hbl := h.lt
  have hAw : Hid (∀ a, A = some a → a.block < w.heap.size) := fun a e => (h.far a e).2
  clear h
  go_enter Try.func10, Try.ntmps10
  go_wp2
  go_loopw [4] (fun v wr => ∃ k : Nat, k ≤ s.length ∧ v = .int .i64 (k : Int) ∧ (∀ i, i < k → lt x (at_ s i) = false) ∧ RMid w b A s x wr) (fun v _ => s.length - (intOf v).toNat)
  case atStart => exact ⟨0, Nat.zero_le _, rfl, fun i hi => by omega, HM0.out⟩
  case round =>
    obtain ⟨k, hk, rfl, hne, hm⟩ := hrel
    have HM := Lib.hid hm
    have HNe := Lib.hid hne
    obtain ⟨cap, hc, hcap, hnil⟩ := hm.ref.cell
    have x0 : wr.cell? ⟨w.heap.size, 0, none⟩ = some (.int .i64 x.c) := by rw [blk_cell hm.box]; rfl
    have x1 : wr.cell? ⟨w.heap.size, 1, none⟩ = some (.int .i64 x.t) := by rw [blk_cell hm.box]; rfl
    have x2 : wr.cell? ⟨w.heap.size, 2, none⟩ = some (.int .i64 x.i) := by rw [blk_cell hm.box]; rfl
    clear hm hne HM0
    by_cases hlt : k < s.length
    · obtain ⟨a, rfl, _, a0, a1, a2⟩ := HM.out.ref.items k hlt
      have HA : Hid (∀ W, Calls Try.prog 21 #[.agg #[.int .i64 x.c, .int .i64 x.t, .int .i64 x.i], .agg #[.int .i64 (at_ s k).c, .int .i64 (at_ s k).t, .int .i64 (at_ s k).i]] W fun e w' => e = .returned (.bool (lt x (at_ s k))) ∧ Below W.heap.size W w') := fun W => aheadr_any x (at_ s k) W
      cases hq : lt x (at_ s k) with
      | false =>
        rw [hq] at HA
        have HNe2 : Hid (∀ i, i < k + 1 → lt x (at_ s i) = false) := by
          intro i hi
          by_cases e : i = k
          · rw [e]; exact hq
          · exact HNe.out i (by omega)
        clear hq
        generalize at_ s k = y at *
        generalize hn : s.length = n at *
        have HN := Lib.hid hn
        clear hn
        go_wp2_with fail
        go_still_tail 8, (by kernel_rfl)
        change wpList _ _ _ _ _ wr.drew
        go_wp2_with fail
        refine (HA.out _).mono ?_
        rintro e w1 ⟨rfl, hb1⟩
        have HM1 := Lib.hid (HM.out.grow ((Kept.refl _ wr).drew.trans (Kept.of_below hb1 (Nat.le_refl _)) (fun _ _ => id)))
        clear hb1
        go_wp2
        exact ⟨⟨k + 1, by omega, by go_num, HNe2.out, HM1.out⟩, by simp [intOf]; omega⟩
      | true =>
        rw [hq] at HA
        have HI : Hid (ins x s = s.take k ++ x :: s.drop k) := ins_at HNe.out (.inr ⟨hlt, hq⟩)
        clear hq
        generalize at_ s k = y at *
        go_wp2_with fail
        go_still_tail 8, (by kernel_rfl)
        change wpList _ _ _ _ _ wr.drew
        go_wp2_with fail
        refine (HA.out _).mono ?_
        rintro e wt ⟨rfl, hb1⟩
        have HM1 := Lib.hid (HM.out.grow ((Kept.refl _ wr).drew.trans (Kept.of_below hb1 (Nat.le_refl _)) (fun _ _ => id)))
        clear hb1 hc x0 x1 x2 HM hcap hnil a0 a1 a2
        obtain ⟨cap, hc, hcap, hnil⟩ := HM1.out.ref.cell
        have x0 : wt.cell? ⟨w.heap.size, 0, none⟩ = some (.int .i64 x.c) := by rw [blk_cell HM1.out.box]; rfl
        have x1 : wt.cell? ⟨w.heap.size, 1, none⟩ = some (.int .i64 x.t) := by rw [blk_cell HM1.out.box]; rfl
        have x2 : wt.cell? ⟨w.heap.size, 2, none⟩ = some (.int .i64 x.i) := by rw [blk_cell HM1.out.box]; rfl
        have HF := Lib.hid HM1.out.ref.items.flat
        go_wp2_with (at_builtin; refine wpList_append_own _ rfl (.tmp 26) (.tmp 32) 28 rfl w.heap.size 37 i0 (.agg #[.int .i64 0, .int .i64 0, .int .i64 0]) 3 24 Try.underlying28 hi hz0 hz1 hz2 rfl (by decide) _ _ _ rfl (World.ownsRow_nil _ _ _ _) a k cap (csL (s.take k)) rfl ?qa1 ?qa2 csL_one ?qa3 ?qa4 ?qa5 ?_)
        case qa1 => rw [csL_length, List.length_take]; omega
        case qa2 =>
          intro j u hj
          rw [← csL_take] at hj
          exact HF.out j u (by
            rw [List.getElem?_take] at hj
            split at hj
            · exact hj
            · cases hj)
        case qa3 => unfold maxLen; omega
        case qa4 => omega
        case qa5 => exact HM1.out.kept.size
        intro v1 W1 ho1 hg1 _
        obtain ⟨hM1, c1b, y0, y1, y2⟩ := rmid_1 HM1.out hg1 hc
        have HG1 := Lib.hid ho1
        have HB1 := Lib.hid hg1
        clear ho1 hg1 hc x0 x1 x2
        go_wp2_with (at_builtin; refine wpList_append_own _ rfl (.tmp 34) (.tmp 36) 28 rfl w.heap.size 37 i0 (.agg #[.int .i64 0, .int .i64 0, .int .i64 0]) 3 24 Try.underlying28 hi hz0 hz1 hz2 rfl (by decide) _ _ _ rfl (HG1.out.alloc _) ⟨W1.heap.size, 0, none⟩ 1 1 x.cs rfl rfl (new_cells _ x rfl) ?qb1 ?qb2 ?qb3 ?qb4 ?_)
        case qb1 => intro u hu; simp [It.cs] at hu; rcases hu with rfl | rfl | rfl <;> rfl
        case qb2 => unfold maxLen; omega
        case qb3 => omega
        case qb4 => have := HM1.out.kept.size; have := HB1.out.size; simp; omega
        intro v2 W2 ho2 hg2 _
        obtain ⟨hR2, hK2, c2b, f2b⟩ := rmid_2 hM1 hAw.out hg2 HG1.out c1b
        have HR2 := Lib.hid hR2
        have HK2 := Lib.hid hK2
        have HG2 := Lib.hid ho2
        have HF2 := Lib.hid hR2.items.flat
        clear hR2 hK2 ho2 hg2 HG1 HB1 hM1 c1b y0 y1 y2
        have hck : cap ≠ k := by omega
        go_wp2_with (at_builtin; refine wpList_append_own _ rfl (.tmp 39) (.tmp 45) 28 rfl w.heap.size 37 i0 (.agg #[.int .i64 0, .int .i64 0, .int .i64 0]) 3 24 Try.underlying28 hi hz0 hz1 hz2 rfl (by decide) _ _ _ rfl HG2.out (a.add (k * 3)) (s.length - k) (cap - k) (csL (s.drop k)) rfl ?qd1 ?qd2 csL_one ?qd3 ?qd4 ?qd5 ?_)
        case qd1 => rw [csL_length, List.length_drop]
        case qd2 => 
          intro j u hj
          rw [add_add']
          rw [← csL_drop, List.getElem?_drop] at hj
          exact HF2.out _ u hj
        case qd3 => unfold maxLen; omega
        case qd4 => omega
        case qd5 => exact HK2.out.size
        intro v3 W3 ho3 hg3 _
        obtain ⟨g3, cap3, rfl, hg3b, _⟩ := ho3.form (by omega)
        obtain ⟨c3b, f3b, hfin⟩ := rpush_last HR2.out HK2.out hg3 HG2.out ho3 HI.out hk c2b
        have HZ := Lib.hid hfin
        clear hfin ho3 hg3 c2b f2b HG2 HF2 HR2 HK2
        go_wp2
        go_end0
        exact HZ.out
    · have hkn : k = s.length := by omega
      have HI : Hid (ins x s = s.take k ++ x :: s.drop k) := ins_at HNe.out (.inl hkn)
      clear hc x0 x1 x2 hcap hnil
      obtain ⟨wt, rfl⟩ : ∃ wt : World, wt = wr := ⟨_, rfl⟩
      have HM1 := HM
      clear HM
      rcases A with _ | a
      · obtain rfl : s = [] := by
          rcases Nat.eq_zero_or_pos s.length with h | h
          · exact List.eq_nil_of_length_eq_zero h
          · obtain ⟨_, e, _⟩ := HM1.out.ref.items 0 h
            cases e
        obtain rfl : k = 0 := by simpa using hkn
        obtain ⟨cap, hc, hcap, hnil⟩ := HM1.out.ref.cell
        obtain rfl : cap = 0 := hnil rfl
        have x0 : wt.cell? ⟨w.heap.size, 0, none⟩ = some (.int .i64 x.c) := by rw [blk_cell HM1.out.box]; rfl
        have x1 : wt.cell? ⟨w.heap.size, 1, none⟩ = some (.int .i64 x.t) := by rw [blk_cell HM1.out.box]; rfl
        have x2 : wt.cell? ⟨w.heap.size, 2, none⟩ = some (.int .i64 x.i) := by rw [blk_cell HM1.out.box]; rfl
        have h0 : wt.grownBy wt (Value.slice none 0 0).ownBlock := ⟨rfl, rfl, rfl, Nat.le_refl _, fun _ _ _ => rfl⟩
        have HMw := HM1.out
        clear hkn hlt hnil hcap
        simp only [List.length_nil] at hc
        go_wp2_with (at_builtin; refine wpList_append_own _ rfl (.tmp 34) (.tmp 36) 28 rfl w.heap.size 37 i0 (.agg #[.int .i64 0, .int .i64 0, .int .i64 0]) 3 24 Try.underlying28 hi hz0 hz1 hz2 rfl (by decide) _ _ _ rfl (World.ownsRow_nil _ _ _ _) ⟨wt.heap.size, 0, none⟩ 1 1 x.cs rfl rfl (new_cells _ x rfl) ?qb1 ?qb2 ?qb3 ?qb4 ?_)
        case qb1 => intro u hu; simp [It.cs] at hu; rcases hu with rfl | rfl | rfl <;> rfl
        case qb2 => unfold maxLen; omega
        case qb3 => omega
        case qb4 => have := HM1.out.kept.size; simp; omega
        intro v2 W2 ho2 hg2 _
        obtain ⟨hR2, hK2, c2b, f2b⟩ := rmid_2 HMw hAw.out hg2 (World.ownsRow_nil wt w.heap.size 37 3) (by simpa using hc)
        have h3 : W2.grownBy W2 v2.ownBlock := ⟨rfl, rfl, rfl, Nat.le_refl _, fun _ _ _ => rfl⟩
        obtain ⟨g3, cap3, rfl, hg3b, _⟩ := ho2.form (by omega)
        obtain ⟨c3b, f3b, hfin⟩ := rpush_last (k := 0) (cap3 := cap3) (g := g3) hR2 hK2 h3 ho2 (by simpa [csL] using ho2) HI.out (Nat.le_refl _) c2b
        have hcap3 : 1 ≤ cap3 := by
          rcases ho2.2 with ⟨e, _⟩ | ⟨g', cap', cur, e, _, _, hn, _⟩
          · cases e
          · cases e; exact hn
        simp only [List.length_nil] at c3b
        simp only [List.length_nil, Nat.sub_zero, Nat.add_zero] at hfin
        have HZ := Lib.hid hfin
        clear hfin ho2 hg2 c2b f2b hR2 hK2 h3 hc HMw h0
        go_wp2
        go_end0
        exact HZ.out
      · obtain ⟨cap, hc, hcap, hnil⟩ := HM1.out.ref.cell
        have x0 : wt.cell? ⟨w.heap.size, 0, none⟩ = some (.int .i64 x.c) := by rw [blk_cell HM1.out.box]; rfl
        have x1 : wt.cell? ⟨w.heap.size, 1, none⟩ = some (.int .i64 x.t) := by rw [blk_cell HM1.out.box]; rfl
        have x2 : wt.cell? ⟨w.heap.size, 2, none⟩ = some (.int .i64 x.i) := by rw [blk_cell HM1.out.box]; rfl
        have HF := Lib.hid HM1.out.ref.items.flat
        have hlt' : ¬ k < s.length := hlt
        clear hlt hkn
        by_cases hck : cap = k
        · have hck' : k = cap := hck.symm
          clear hck
          subst hck'
          go_wp2_with (at_builtin; refine wpList_append_own _ rfl (.tmp 26) (.tmp 32) 28 rfl w.heap.size 37 i0 (.agg #[.int .i64 0, .int .i64 0, .int .i64 0]) 3 24 Try.underlying28 hi hz0 hz1 hz2 rfl (by decide) _ _ _ rfl (World.ownsRow_nil _ _ _ _) a k k (csL (s.take k)) rfl ?qa1 ?qa2 csL_one ?qa3 ?qa4 ?qa5 ?_)
          case qa1 => rw [csL_length, List.length_take]; omega
          case qa2 =>
            intro j u hj
            rw [← csL_take] at hj
            exact HF.out j u (by
              rw [List.getElem?_take] at hj
              split at hj
              · exact hj
              · cases hj)
          case qa3 => unfold maxLen; omega
          case qa4 => omega
          case qa5 => exact HM1.out.kept.size
          intro v1 W1 ho1 hg1 _
          obtain ⟨hM1, c1b, y0, y1, y2⟩ := rmid_1 HM1.out hg1 hc
          have HG1 := Lib.hid ho1
          have HB1 := Lib.hid hg1
          clear ho1 hg1 hc x0 x1 x2
          go_wp2_with (at_builtin; refine wpList_append_own _ rfl (.tmp 34) (.tmp 36) 28 rfl w.heap.size 37 i0 (.agg #[.int .i64 0, .int .i64 0, .int .i64 0]) 3 24 Try.underlying28 hi hz0 hz1 hz2 rfl (by decide) _ _ _ rfl (HG1.out.alloc _) ⟨W1.heap.size, 0, none⟩ 1 1 x.cs rfl rfl (new_cells _ x rfl) ?qb1 ?qb2 ?qb3 ?qb4 ?_)
          case qb1 => intro u hu; simp [It.cs] at hu; rcases hu with rfl | rfl | rfl <;> rfl
          case qb2 => unfold maxLen; omega
          case qb3 => omega
          case qb4 => have := HM1.out.kept.size; have := HB1.out.size; simp; omega
          intro v2 W2 ho2 hg2 _
          obtain ⟨hR2, hK2, c2b, f2b⟩ := rmid_2 hM1 hAw.out hg2 HG1.out c1b
          have HR2 := Lib.hid hR2
          have HK2 := Lib.hid hK2
          have HG2 := Lib.hid ho2
          have HF2 := Lib.hid hR2.items.flat
          clear hR2 hK2 ho2 hg2 HG1 HB1 hM1 c1b y0 y1 y2
          go_wp2_with (at_builtin; refine wpList_append_own _ rfl (.tmp 39) (.tmp 45) 28 rfl w.heap.size 37 i0 (.agg #[.int .i64 0, .int .i64 0, .int .i64 0]) 3 24 Try.underlying28 hi hz0 hz1 hz2 rfl (by decide) _ _ _ rfl HG2.out a 0 0 [] rfl rfl ?qd2 ?qd1 ?qd3 ?qd4 ?qd5 ?_)
          case qd1 => intro u hu; cases hu
          case qd2 => intro j u hj; cases hj
          case qd3 => unfold maxLen; omega
          case qd4 => omega
          case qd5 => exact HK2.out.size
          intro v3 W3 ho3 hg3 _
          have e0 : s.length - k = 0 := by omega
          have e1 : s.drop k = [] := List.drop_of_length_le (by omega)
          have ho3' : W3.ownsRow w.heap.size 37 3 v3 (k + 1 + (s.length - k)) (csL (s.take k) ++ (x.cs ++ csL (s.drop k))) := by
            rw [e0, e1]
            simpa [csL] using ho3
          obtain ⟨g3, cap3, rfl, hg3b, _⟩ := ho3'.form (by omega)
          obtain ⟨c3b, f3b, hfin⟩ := rpush_last HR2.out HK2.out hg3 HG2.out ho3' HI.out hk c2b
          rw [e0] at hfin ⊢
          have HZ := Lib.hid hfin
          clear hfin ho3 ho3' hg3 c2b f2b HG2 HF2 HR2 HK2 e0 e1
          go_wp2
          go_end0
          exact HZ.out
        · go_wp2_with (at_builtin; refine wpList_append_own _ rfl (.tmp 26) (.tmp 32) 28 rfl w.heap.size 37 i0 (.agg #[.int .i64 0, .int .i64 0, .int .i64 0]) 3 24 Try.underlying28 hi hz0 hz1 hz2 rfl (by decide) _ _ _ rfl (World.ownsRow_nil _ _ _ _) a k cap (csL (s.take k)) rfl ?qa1 ?qa2 csL_one ?qa3 ?qa4 ?qa5 ?_)
          case qa1 => rw [csL_length, List.length_take]; omega
          case qa2 =>
            intro j u hj
            rw [← csL_take] at hj
            exact HF.out j u (by
              rw [List.getElem?_take] at hj
              split at hj
              · exact hj
              · cases hj)
          case qa3 => unfold maxLen; omega
          case qa4 => omega
          case qa5 => exact HM1.out.kept.size
          intro v1 W1 ho1 hg1 _
          obtain ⟨hM1, c1b, y0, y1, y2⟩ := rmid_1 HM1.out hg1 hc
          have HG1 := Lib.hid ho1
          have HB1 := Lib.hid hg1
          clear ho1 hg1 hc x0 x1 x2
          go_wp2_with (at_builtin; refine wpList_append_own _ rfl (.tmp 34) (.tmp 36) 28 rfl w.heap.size 37 i0 (.agg #[.int .i64 0, .int .i64 0, .int .i64 0]) 3 24 Try.underlying28 hi hz0 hz1 hz2 rfl (by decide) _ _ _ rfl (HG1.out.alloc _) ⟨W1.heap.size, 0, none⟩ 1 1 x.cs rfl rfl (new_cells _ x rfl) ?qb1 ?qb2 ?qb3 ?qb4 ?_)
          case qb1 => intro u hu; simp [It.cs] at hu; rcases hu with rfl | rfl | rfl <;> rfl
          case qb2 => unfold maxLen; omega
          case qb3 => omega
          case qb4 => have := HM1.out.kept.size; have := HB1.out.size; simp; omega
          intro v2 W2 ho2 hg2 _
          obtain ⟨hR2, hK2, c2b, f2b⟩ := rmid_2 hM1 hAw.out hg2 HG1.out c1b
          have HR2 := Lib.hid hR2
          have HK2 := Lib.hid hK2
          have HG2 := Lib.hid ho2
          have HF2 := Lib.hid hR2.items.flat
          clear hR2 hK2 ho2 hg2 HG1 HB1 hM1 c1b y0 y1 y2
          go_wp2_with (at_builtin; refine wpList_append_own _ rfl (.tmp 39) (.tmp 45) 28 rfl w.heap.size 37 i0 (.agg #[.int .i64 0, .int .i64 0, .int .i64 0]) 3 24 Try.underlying28 hi hz0 hz1 hz2 rfl (by decide) _ _ _ rfl HG2.out (a.add (k * 3)) (s.length - k) (cap - k) (csL (s.drop k)) rfl ?qd1 ?qd2 csL_one ?qd3 ?qd4 ?qd5 ?_)
          case qd1 => rw [csL_length, List.length_drop]
          case qd2 => 
            intro j u hj
            rw [add_add']
            rw [← csL_drop, List.getElem?_drop] at hj
            exact HF2.out _ u hj
          case qd3 => unfold maxLen; omega
          case qd4 => omega
          case qd5 => exact HK2.out.size
          intro v3 W3 ho3 hg3 _
          obtain ⟨g3, cap3, rfl, hg3b, _⟩ := ho3.form (by omega)
          obtain ⟨c3b, f3b, hfin⟩ := rpush_last HR2.out HK2.out hg3 HG2.out ho3 HI.out hk c2b
          have HZ := Lib.hid hfin
          clear hfin ho3 hg3 c2b f2b HG2 HF2 HR2 HK2
          go_wp2
          go_end0
          exact HZ.out

end Go.Proofs.Ytdhpphkkpjldfab
