/- Joined texts: PW3, PW4. -/
import Derived.Test.YtkfijjjnidiejaaDoorPW2
import Derived.LoopTactic
import Derived.WalkMore
import Derived.Deep.LoopGhost
import Derived.Deep.RegionLaw
import Derived.Lib.Hide

/-
  The pile's up: its walk.
-/
namespace Go.Proofs.YtkfijjjnidiejaaDoor
set_option maxRecDepth 100000
open Go Go.RowKit Pq

/-- While an item goes up or down: the pile, the captured pointer. -/
structure Mid (w : World) (b j : Nat) (r : Option Nat) (l : List It) (l' : List It) (wr : World) : Prop where
  pile : Pile wr b j r l'
  perm : l'.Perm l
  kept : Kept (fun k => some k = r) w wr
  ptr : wr.cell? ⟨w.heap.size, 0, none⟩ = some (.pointer (some ⟨b, j, none⟩))
  new : ∀ k, Of b r k → k < w.heap.size

theorem Mid.start {w : World} {b j : Nat} {r : Option Nat} {l : List It} (h : Pile w b j r l) (t : TypeId) : Mid w b j r l l (w.alloc (.cells #[.pointer (some ⟨b, j, none⟩)] t)) :=
  ⟨h.kept ((Kept.refl (fun _ => False) w).alloc _) (fun _ _ => id), List.Perm.refl _, (Kept.refl _ w).alloc _, by simp, h.lt⟩
theorem Mid.below {w wr w' : World} {b j : Nat} {r : Option Nat} {l l' : List It} (h : Mid w b j r l l' wr) (hb : Below wr.heap.size wr w') : Mid w b j r l l' w' :=
  ⟨h.pile.kept (Kept.of_below (X := fun _ => False) hb (Nat.le_refl _)) (fun _ _ => id), h.perm, h.kept.trans (Kept.of_below (X := fun _ => False) hb (Nat.le_refl _)) (fun _ _ => False.elim),
    (hb.cell (World.block_lt_of_cell? wr _ h.ptr)).trans h.ptr, h.new⟩
theorem Mid.swap {w wr w' : World} {b j : Nat} {r : Option Nat} {l l' l2 : List It} (h : Mid w b j r l l' wr) (hp : Pile w' b j r l2) (hperm : l2.Perm l') (hk : Kept (fun k => some k = r) wr w') : Mid w b j r l l2 w' :=
  ⟨hp, hperm.trans h.perm, h.kept.trans hk (fun _ _ => id), hk.cell h.ptr (fun hx => by have := h.new _ (.inr hx); simp at this), h.new⟩

def UpRel (w : World) (b j : Nat) (r : Option Nat) (l : List It) (v : Value) (wr : World) : Prop :=
  ∃ (k : Nat) (l' : List It), v = .int .i64 (k : Int) ∧ k < l'.length ∧ l'.length = l.length ∧ UpInv l' k ∧ Mid w b j r l l' wr

def UpPost (w : World) (b j : Nat) (r : Option Nat) (l : List It) (e : Ending) (w' : World) : Prop :=
  e = .returned (.tuple #[]) ∧ ∃ l', Pile w' b j r l' ∧ Heap l' ∧ l'.Perm l ∧ Kept (fun k => some k = r) w w'

set_option maxHeartbeats 400000 in
theorem order_any (b j : Nat) (w : World) :
    Calls Tryd.prog 79 #[.pointer (some ⟨b, j, none⟩)] w fun e w' => e = .returned (.func (.func 91) #[] #[.pointer (some ⟨w.heap.size, 0, none⟩)]) ∧ w' = w.alloc (.cells #[.pointer (some ⟨b, j, none⟩)] 108) := by
  go_enter Tryd.func79, Tryd.ntmps79
  go_wp2
  go_ret
  exact ⟨rfl, rfl⟩

set_option maxHeartbeats 1000000 in
theorem up_any {w : World} {b j : Nat} {r : Option Nat} {l : List It} (h : Pile w b j r l) (k : Nat) (hk : k < l.length) (hl : l.length ≤ 100000) (hu : UpInv l k) :
    Calls Tryd.prog 63 #[.pointer (some ⟨b, j, none⟩), .int .i64 (k : Int)] w (UpPost w b j r l) := by
  have HS : Hid (∀ t, UpRel w b j r l (.int .i64 (k : Int)) (w.alloc (.cells #[.pointer (some ⟨b, j, none⟩)] t))) := fun t => ⟨k, l, rfl, hk, rfl, hu, Mid.start h t⟩
  clear h hu hk
  go_enter Tryd.func63, Tryd.ntmps63
  go_wp2
  go_step3
  go_wp2_with fail
  refine (order_any _ _ _).mono ?_
  rintro e w1 ⟨rfl, rfl⟩
  go_wp2_with fail
  go_step3
  go_wp2
  go_loopw [1] (fun v wr => UpRel w b j r l v wr) (fun v _ => (intOf v).toNat)
  case atStart => exact HS.out _
  case round =>
    obtain ⟨k', l', rfl, hk', hlen, hinv, hm⟩ := hrel
    have hb : k' ≤ 100000 := by omega
    have HM : Hid (Mid w b j r l l' wr) := hm
    have HI : Hid (UpInv l' k') := hinv
    have HL : Hid (l'.length = l.length) := hlen
    have HK : Hid (k' < l'.length) := hk'
    clear hm hinv hlen hk' hl HS
    by_cases h0 : k' = 0
    · subst h0
      go_wp2
      try rw [Exit.noGoto_ret]
      go_end0
      exact ⟨rfl, l', HM.out.pile, up_done HI.out (.inl rfl), HM.out.perm, HM.out.kept⟩
    · have hpos : 0 < k' := by omega
      have hpi : ((k' : Int) - 1) / 2 = (((k' - 1) / 2 : Nat) : Int) := by omega
      have HA : Hid (Calls Tryd.prog 91 #[.int .i64 (k' : Int), .int .i64 (((k' : Int) - 1) / 2), .pointer (some ⟨w.heap.size, 0, none⟩)] wr fun e w' => e = .returned (.bool (lt (at_ l' k') (at_ l' ((k' - 1) / 2)))) ∧ Mid w b j r l l' w') := by
        show Calls _ _ _ _ _
        rw [hpi]
        exact (ahead_any HM.out.pile HM.out.ptr k' ((k' - 1) / 2) HK.out (by have := HK.out; omega)).mono fun e w' ⟨h1, h2⟩ => ⟨h1, HM.out.below h2⟩
      cases hq : lt (at_ l' k') (at_ l' ((k' - 1) / 2)) with
      | false =>
        rw [hq] at HA
        have HD : Hid (Heap l') := up_done HI.out (.inr hq)
        clear hq hpi
        go_wp2_with (go_at_call 91; (with_reducible refine HA.out.mono ?_); rintro e w1 ⟨rfl, hm1⟩; have HM1 : Hid (Mid w b j r l l' w1) := hm1; clear hm1)
        try rw [Exit.noGoto_ret]
        go_end0
        exact ⟨rfl, l', HM1.out.pile, HD.out, HM1.out.perm, HM1.out.kept⟩
      | true =>
        rw [hq] at HA
        have HU : Hid (UpInv (swp l' k' ((k' - 1) / 2)) ((k' - 1) / 2)) := up_step HI.out hpos HK.out hq
        have HB : Hid (∀ w1, Mid w b j r l l' w1 → Calls Tryd.prog 80 #[.pointer (some ⟨b, j, none⟩), .int .i64 (k' : Int), .int .i64 (((k' : Int) - 1) / 2)] w1 fun e w' => e = .returned (.tuple #[]) ∧ Mid w b j r l (swp l' k' ((k' - 1) / 2)) w') := by
          intro w1 h1
          rw [hpi]
          exact (swap_any h1.pile k' ((k' - 1) / 2) HK.out (by have := HK.out; omega) (by omega)).mono fun e w' ⟨h2, h3, h4⟩ => ⟨h2, h1.swap h3 (swp_perm HK.out (by have := HK.out; omega)) h4⟩
        have HP : Hid (((k' : Int) - 1) / 2 = (((k' - 1) / 2 : Nat) : Int)) := hpi
        have HQ : Hid ((k' - 1) / 2 < (swp l' k' ((k' - 1) / 2)).length ∧ (swp l' k' ((k' - 1) / 2)).length = l.length) := by
          rw [swp_length]; have := HK.out; have := HL.out; exact ⟨by omega, this⟩
        clear hq hpi
        go_wp2_with (first
          | (go_at_call 91; (with_reducible refine HA.out.mono ?_); rintro e w1 ⟨rfl, hm1⟩; have HM1 : Hid (Mid w b j r l l' w1) := hm1; clear hm1)
          | (go_at_call 80; (with_reducible refine (HB.out _ HM1.out).mono ?_); rintro e w2 ⟨rfl, hm2⟩; have HM2 : Hid (Mid w b j r l (swp l' k' ((k' - 1) / 2)) w2) := hm2; clear hm2))
        go_roundw
        case rel => exact ⟨(k' - 1) / 2, _, by rw [HP.out], HQ.out.1, HQ.out.2, HU.out, HM2.out⟩
        case measure => simp [intOf]; omega
end Go.Proofs.YtkfijjjnidiejaaDoor

/-
  The pile's Push: its walk.
-/
namespace Go.Proofs.YtkfijjjnidiejaaDoor
set_option maxRecDepth 100000
open Go Go.RowKit Pq

theorem Tryd.infoItem : (Tryd.prog.info? 89).map (fun i => (i.zero, i.size, i.bytes)) = some (some (.agg #[.int .i64 0, .int .i64 0, .int .i64 0]), 3, 24) := by kernel_rfl

/-- A pile that an item has been put behind. -/
theorem pile_grow {w w2 : World} {b j g cap H n : Nat} {r : Option Nat} {v : Value} {l : List It} {x : It} {o : Obj}
    (hc : w.cell? ⟨b, j, none⟩ = some v) (hf : w.frozen? ⟨b, j, none⟩ = false) (hr : v.ownBlock = r) (hn : r ≠ some b)
    (hg : (w.drew.alloc o).grownBy w2 v.ownBlock) (hl : n = l.length) (ho2 : w2.ownsRow 0 89 3 (.slice (some ⟨g, 0, none⟩) (n + 1) cap) (n + 1) (csL l ++ x.cs)) (hat : v.ownBlock = some g ∨ g = H) (hH : w.heap.size < H) :
    Pile (w2.setCell ⟨b, j, none⟩ (.slice (some ⟨g, 0, none⟩) (n + 1) cap)) b j (some g) (l ++ [x]) ∧ Kp b j r w (w2.setCell ⟨b, j, none⟩ (.slice (some ⟨g, 0, none⟩) (n + 1) cap)) ∧ (some g = r ∨ w.heap.size ≤ g) := by
  subst hr hl
  have hlt : b < w.heap.size := World.block_lt_of_cell? w _ hc
  have hgb : g ≠ b := by
    rintro rfl
    rcases hat with h | h
    · exact hn h
    · omega
  have hb2 : w2.heap[b]? = w.heap[b]? := by
    rw [hg.block b (by simp; omega) (fun e => hn e.symm)]
    exact Below.heap_alloc w.drew o b hlt
  have c2 : w2.cell? ⟨b, j, none⟩ = some v := (World.cell?_of_block (a := ⟨b, j, none⟩) hb2).trans hc
  have f2 : w2.frozen? ⟨b, j, none⟩ = false := (World.frozen?_of_block (a := ⟨b, j, none⟩) hb2).trans hf
  have hK : Kept (Of b v.ownBlock) w w2 := ((Kept.refl (Of b v.ownBlock) w).drew.alloc o).grown hg (fun k hk => .inl (.inr hk.symm))
  have hK3 := hK.setCell (p := ⟨b, j, none⟩) (.inl (.inl rfl)) (.slice (some ⟨g, 0, none⟩) (l.length + 1) cap)
  refine ⟨⟨.slice (some ⟨g, 0, none⟩) (l.length + 1) cap, World.cell?_setCell_same _ _ _ (by rw [c2]), ?_, rfl, by simpa using hgb, ?_⟩, ⟨hK3, fun o ho => ?_, fun o => ?_⟩, ?_⟩
  · rw [World.frozen?_setCell]; exact f2
  · rw [List.length_append, csL_append]
    have : csL [x] = x.cs := by simp [csL]
    rw [this]
    exact Kept.row ((Kept.refl (fun k => k = b) w2).setCell (p := ⟨b, j, none⟩) (.inl rfl) _) ho2 (fun k hk e => by simp [Value.ownBlock] at hk; omega)
  · rw [World.cell?_setCell_other _ _ _ _ (by intro e; cases e; exact ho rfl)]
    exact World.cell?_of_block (a := ⟨b, o, none⟩) hb2
  · rw [World.frozen?_setCell]
    exact World.frozen?_of_block (a := ⟨b, o, none⟩) hb2
  · rcases hat with h | h
    · exact .inl h.symm
    · right; omega

/-- The cells of an item that has just been laid into a block. -/
theorem new_cells (w : World) (x : It) {B : Nat} {t : TypeId} (hB : B = w.heap.size) : ∀ k u, x.cs[k]? = some u → (w.alloc (.cells #[.int .i64 x.c, .int .i64 x.t, .int .i64 x.i] t)).cell? ((⟨B, 0, none⟩ : Addr).add k) = some u := by
  subst hB
  intro k u hk
  match k, hk with
  | 0, hk => simp [It.cs] at hk; subst hk; simp [Addr.add]
  | 1, hk => simp [It.cs] at hk; subst hk; simp [Addr.add]
  | 2, hk => simp [It.cs] at hk; subst hk; simp [Addr.add]

def PushPost (w : World) (b j : Nat) (r : Option Nat) (l : List It) (x : It) (e : Ending) (w' : World) : Prop :=
  e = .returned (.tuple #[]) ∧ ∃ r' l', Pile w' b j r' l' ∧ Heap l' ∧ l'.Perm (x :: l) ∧ Kp b j r w w' ∧ (∀ k, some k = r' → some k = r ∨ w.heap.size ≤ k)

theorem push_last {w w1 w' : World} {b j g : Nat} {r : Option Nat} {l : List It} {x : It} {e : Ending} (h : UpPost w1 b j (some g) (l ++ [x]) e w') (hk : Kp b j r w w1) (hb : b < w.heap.size) (hg : some g = r ∨ w.heap.size ≤ g) : PushPost w b j r l x e w' := by
  obtain ⟨he, l', hp, hh, hpm, hk2⟩ := h
  refine ⟨he, some g, l', hp, hh, hpm.trans (by simp), hk.trans (Kp.of_kept (r := some g) hk2 (Nat.lt_of_lt_of_le hb hk.kept.size) ?_ (fun _ _ h => h)) ?_, ?_⟩
  · obtain ⟨v, _, _, _, hn, _⟩ := hp
    exact fun e => hn e.symm
  · intro i hi h2
    rcases hg with h3 | h3
    · exact h2.trans h3
    · have : i = g := by simpa using h2
      omega
  · intro k hk
    have : k = g := by simpa using hk
    subst this
    exact hg

set_option maxHeartbeats 1000000 in
theorem push_any {w : World} {b j : Nat} {r : Option Nat} {l : List It} (h : Pile w b j r l) (hh : Heap l) (x : It) (hl : l.length ≤ 10000) :
    Calls Tryd.prog 46 #[.pointer (some ⟨b, j, none⟩), .agg #[.int .i64 x.c, .int .i64 x.t, .int .i64 x.i]] w (PushPost w b j r l x) := by
  obtain ⟨i0, hi, hz0, hz1, hz2⟩ := info_parts Tryd.infoItem
  have hlt := h.lt b (.inl rfl)
  have h0 : ∀ t, Pile (w.alloc (.cells #[.int .i64 x.c, .int .i64 x.t, .int .i64 x.i] t)) b j r l := fun t => h.kept ((Kept.refl (fun _ => False) w).alloc _) (fun _ _ => id)
  have hU := up_push hh x
  obtain ⟨v, hc, hf, hr, hn, ho⟩ := h
  have HS : Hid (∀ t t' w2 g cap, (((w.alloc (.cells #[.int .i64 x.c, .int .i64 x.t, .int .i64 x.i] t)).drew).alloc (.cells #[.int .i64 x.c, .int .i64 x.t, .int .i64 x.i] t')).grownBy w2 v.ownBlock →
      w2.ownsRow 0 89 3 (.slice (some ⟨g, 0, none⟩) (l.length + 1) cap) (l.length + 1) (csL l ++ x.cs) → (v.ownBlock = some g ∨ g = w.heap.size + 1 + 1) →
      (w2.cell? ⟨b, j, none⟩ = some v ∧ w2.frozen? ⟨b, j, none⟩ = false) ∧
      (w2.setCell ⟨b, j, none⟩ (.slice (some ⟨g, 0, none⟩) (l.length + 1) cap)).cell? ⟨b, j, none⟩ = some (.slice (some ⟨g, 0, none⟩) (l.length + 1) cap) ∧
      Calls Tryd.prog 63 #[.pointer (some ⟨b, j, none⟩), .int .i64 (l.length : Int)] (w2.setCell ⟨b, j, none⟩ (.slice (some ⟨g, 0, none⟩) (l.length + 1) cap)) (PushPost w b j r l x)) := by
    intro t t' w2 g cap hg ho2 hat
    obtain ⟨v', hc', hf', hr', hn', ho'⟩ := h0 t
    have hcx := cell_a1 hc (.cells #[.int .i64 x.c, .int .i64 x.t, .int .i64 x.i] t)
    obtain rfl : v = v' := by rw [hcx] at hc'; exact Option.some.inj hc'
    have hlt1 : b < (w.alloc (.cells #[.int .i64 x.c, .int .i64 x.t, .int .i64 x.i] t)).heap.size := by simp; omega
    have hb2 : w2.heap[b]? = (w.alloc (.cells #[.int .i64 x.c, .int .i64 x.t, .int .i64 x.i] t)).heap[b]? := by
      rw [hg.block b (by simp; omega) (fun e => hn (by rw [← hr, ← e]))]
      exact Below.heap_alloc (w.alloc (.cells #[.int .i64 x.c, .int .i64 x.t, .int .i64 x.i] t)).drew _ b hlt1
    have c2 : w2.cell? ⟨b, j, none⟩ = some v := (World.cell?_of_block (a := ⟨b, j, none⟩) hb2).trans hc'
    have f2 : w2.frozen? ⟨b, j, none⟩ = false := (World.frozen?_of_block (a := ⟨b, j, none⟩) hb2).trans hf'
    obtain ⟨hp3, hk3, hr3⟩ := pile_grow (x := x) hc' hf' hr' hn' hg rfl ho2 hat (by simp)
    refine ⟨⟨c2, f2⟩, World.cell?_setCell_same _ _ _ (by rw [c2]), ?_⟩
    have hk0 : Kp b j r w (w2.setCell ⟨b, j, none⟩ (.slice (some ⟨g, 0, none⟩) (l.length + 1) cap)) := ((Kp.refl b j r w).alloc hlt _).trans hk3 (fun _ _ => id)
    exact (up_any hp3 l.length (by simp) (by simp; omega) hU).mono fun e w' hq => push_last hq hk0 hlt (by
      rcases hat with h1 | h1
      · exact .inl (by rw [← hr, h1])
      · right; omega)
  have HC : Hid ((∀ o, (w.alloc o).cell? ⟨b, j, none⟩ = some v) ∧ ∀ o o', ((w.alloc o).alloc o').cell? ⟨b, j, none⟩ = some v) := ⟨cell_a1 hc, cell_a2 hc⟩
  have HO : Hid (w.ownsRow 0 89 3 v l.length (csL l)) := ho
  obtain ⟨hcc, hcc2⟩ := HC.out
  clear hc hf hr hn ho h0 hU hh hlt
  have hx1 : ∀ u ∈ x.cs, u.oneCell' = true := by intro u hu; simp [It.cs] at hu; rcases hu with rfl | rfl | rfl <;> rfl
  have HX : Hid (∀ u ∈ x.cs, u.oneCell' = true) := hx1
  clear hx1
  generalize hn : l.length = n at *
  have HN : Hid (l.length = n) := hn
  clear hn
  generalize csL l = xs at *
  go_enter Tryd.func46, Tryd.ntmps46
  go_wp2
  go_region_law (refine step_append_lies _ rfl (.tmp 10) (.tmp 12) 83 rfl 0 89 i0 (.agg #[.int .i64 0, .int .i64 0, .int .i64 0]) 3 24 Tryd.underlying83 hi hz0 hz1 hz2 rfl (by decide) v n xs (by simp [Act.eval]) (((HO.out.alloc _).drew).alloc _) ⟨w.heap.size + 1, 0, none⟩ 1 1 x.cs (by simp [Act.eval]) rfl (new_cells _ x (by simp)) HX.out (by decide) (by unfold maxLen; omega) (by omega) (by simp) (w.heap.size + 1 + 1) (by simp) ?_; intro g2 cap2 w2 ho2 hg2 hat2 _; obtain ⟨⟨hq1, hq2⟩, hq3, hq4⟩ := HS.out _ _ _ _ _ hg2 ho2 hat2)
  all_goals
    have HQ := Lib.hid hq4
    clear hq4 hg2 ho2 hat2 hcc hcc2
    go_wp2_with (go_at_call 63; refine HQ.out.mono ?_; rintro e w' ⟨rfl, hq5⟩; have HZ := Lib.hid hq5; clear hq5)
    go_end0
    exact ⟨rfl, HZ.out⟩
end Go.Proofs.YtkfijjjnidiejaaDoor
