/-
  The library's Insert, of one node into a rising list.
-/
import Derived.Test.YtlcadkhhpnaofaaGW1
namespace Go.Proofs.Ytlcadkhhpnaofaa
set_option maxRecDepth 100000
open Go Go.RowKit Gq

/-- A block's shape stays. -/
theorem setCells_block (g : Nat) : ∀ (vs : List Value) (o : Nat) (w : World) {cur : Array Value} {e : TypeId}, w.heap[g]? = some (.cells cur e (0, 0)) → ∃ cur', (w.setCells g o vs).heap[g]? = some (.cells cur' e (0, 0)) ∧ cur'.size = cur.size
  | [], _, _, cur, _, h => ⟨cur, h, rfl⟩
  | v :: r, o, w, cur, e, h => by
    obtain ⟨cur', h1, h2⟩ := setCells_block g r (o + 1) (w.setCell ⟨g, o, none⟩ v) (heap_setCell_same w g o cur e v h)
    exact ⟨cur', h1, by rw [h2]; simp⟩
theorem setCells_kept {X : Nat → Prop} {a : World} {g : Nat} (hg : X g ∨ a.heap.size ≤ g) : ∀ (vs : List Value) (o : Nat) (w : World), Kept X a w → Kept X a (w.setCells g o vs)
  | [], _, _, h => h
  | v :: r, o, _, h => setCells_kept hg r (o + 1) _ (h.setCell (p := ⟨g, o, none⟩) hg v)

theorem row_of_cells {w : World} {g cap : Nat} {cur : Array Value} {ys : List Nat} (hb : w.heap[g]? = some (.cells cur 3 (0, 0))) (hs : cur.size = cap) (hn : ys.length ≤ cap) (hcap : cap ≤ maxLen)
    (hc : ∀ j, j < ys.length → w.cell? ⟨g, j, none⟩ = some (ni (ys.getD j 0))) : RowAt w (.slice (some ⟨g, 0, none⟩) ys.length cap) ys := by
  refine ⟨by rw [nis_length]; omega, .inr ⟨g, cap, cur, rfl, Nat.zero_le _, hb, hn, hcap, by omega, ?_⟩⟩
  apply List.ext_getElem?
  intro j
  by_cases hj : j < ys.length
  · rw [List.getElem?_take_of_lt (by omega), nis_get hj, ← hc j hj, blk_cell hb, Array.getElem?_toList]
  · rw [List.getElem?_take_eq_none (by omega), List.getElem?_eq_none (by rw [nis_length]; omega)]

theorem alloc_cell (w : World) (cs : Array Value) (t : TypeId) (j : Nat) : (w.drew.alloc (.cells cs t)).cell? ⟨w.heap.size, j, none⟩ = cs[j]? := blk_cell (heap_alloc_new w.drew _) j
theorem lay3 : layInsert_ren.t 3 = 3 := rfl

/-- What a list with one more has where. -/
theorem getD_ins (l : List Nat) (k b j : Nat) (hk : k ≤ l.length) : (l.take k ++ b :: l.drop k).getD j 0 = if j < k then l.getD j 0 else if j = k then b else l.getD (j - 1) 0 := by
  simp only [List.getD_eq_getElem?_getD]
  by_cases h1 : j < k
  · rw [if_pos h1, List.getElem?_append_left (by rw [List.length_take]; omega), List.getElem?_take_of_lt h1]
  · rw [if_neg h1, List.getElem?_append_right (by rw [List.length_take]; omega), List.length_take, Nat.min_eq_left hk]
    by_cases h2 : j = k
    · subst h2; simp
    · rw [if_neg h2]
      obtain ⟨m, rfl⟩ : ∃ m, j = k + 1 + m := ⟨j - (k + 1), by omega⟩
      rw [show k + 1 + m - k = m + 1 by omega, List.getElem?_cons_succ, List.getElem?_drop, show k + m = k + 1 + m - 1 by omega]
theorem length_ins (l : List Nat) (k b : Nat) (hk : k ≤ l.length) : (l.take k ++ b :: l.drop k).length = l.length + 1 := by
  rw [List.length_append, List.length_take, List.length_cons, List.length_drop]
  omega

/-- Behind an insertion: the new list lies there. -/
def InsPost (w : World) (v : Value) (ys : List Nat) (e : Ending) (w' : World) : Prop :=
  ∃ v', e = .returned v' ∧ RowAt w' v' ys ∧ (v'.ownBlock = v.ownBlock ∨ v'.ownBlock = some w.heap.size) ∧ v'.ownBlock ≠ none ∧ Kept (fun k => v.ownBlock = some k) w w'

theorem insert_any {w : World} {v : Value} {l : List Nat} (h : RowAt w v l) {k b vb : Nat} (hk : k ≤ l.length) (hl : l.length ≤ 100000) (hvb : w.heap[vb]? = some (.cells #[.int .i64 (b : Int)] 3 (0, 0))) (hne : v.ownBlock ≠ some vb) (vc : Nat) :
    Calls Try.prog 28 #[v, .int .i64 (k : Int), .slice (some ⟨vb, 0, none⟩) 1 vc] w (InsPost w v (l.take k ++ b :: l.drop k)) := by
  have hly := length_ins l k b hk
  have hvs : ∀ (j : Nat) (u : Value), [ni b][j]? = some u → w.cell? ⟨vb, 0 + j, none⟩ = some u := by
    intro j u hu
    rw [Nat.zero_add, blk_cell hvb]
    cases j with
    | zero => simp at hu; subst hu; rfl
    | succ j => simp at hu
  have h1v : ∀ u ∈ [ni b], u.oneCell' = true := by intro u hu; simp at hu; subst hu; rfl
  rcases h.2 with ⟨rfl, h0⟩ | ⟨g, cap, cur, rfl, _, hg, hnc, hcm, hsz, htk⟩
  · -- nil: a new list
    obtain rfl : l = [] := List.eq_nil_of_length_eq_zero h0
    obtain rfl : k = 0 := by simpa using hk
    have := Any2.slices_Insert_int_end_grow layInsert none 0 0 vb 0 1 vc [] [ni b] w (by omega) (Nat.le_refl _) (by omega) (by omega) rfl rfl (fun _ => rfl) (fun a e => by cases e) hvs h1v
    simp only [lay3] at this
    refine Calls.mono this fun e w' ⟨he, hw⟩ => ?_
    have hge := grownCap_ge w 1 0 3
    have hle := grownCap_le_maxLen w 1 0 3 (by unfold maxLen; omega)
    refine ⟨_, he, ?_, .inr rfl, by simp [Value.ownBlock], ?_⟩
    · subst hw
      refine row_of_cells (ys := [b]) (heap_alloc_new _ _) ?_ (by simpa using hge) hle ?_
      · simp [Builtin.zeroCells, Value.cells]
        show 1 + (grownCap w 1 0 3 - 1) = grownCap w 1 0 3
        omega
      · intro j hj
        obtain rfl : j = 0 := by simpa using hj
        rw [alloc_cell, Array.getElem?_append_left (by simp)]
        rfl
    · subst hw
      exact (Kept.refl _ w).drew.alloc _
  · have HO : w.ownsRow 0 3 1 (.slice (some ⟨g, 0, none⟩) l.length cap) l.length (nis l) := h
    have hgv : g ≠ vb := fun e => hne (by rw [← e]; rfl)
    have hcell : ∀ j, j < l.length → w.cell? ⟨g, j, none⟩ = some (ni (l.getD j 0)) := fun j hj => by rw [HO.cellAt j (by omega), nis_get hj]
    have hcs : ∀ (j : Nat) (u : Value), (nis l)[j]? = some u → w.cell? ⟨g, 0 + j, none⟩ = some u := by
      intro j u hu
      have hj : j < l.length := by
        rcases Nat.lt_or_ge j l.length with h1 | h1
        · exact h1
        · rw [List.getElem?_eq_none (by rw [nis_length]; omega)] at hu; cases hu
      rw [nis_get hj] at hu
      rw [Nat.zero_add, hcell j hj, hu]
    have hsome : ∀ j, j < cap → (w.cell? ⟨g, j, none⟩).isSome = true := by
      intro j hj
      rw [blk_cell hg]
      simp [show j < cur.size by omega]
    have hfz : ∀ j, w.frozen? ⟨g, j, none⟩ = false := fun j => HO.frozenAt j
    have hlen : (l.take k ++ b :: l.drop k).length = l.length + 1 := hly
    by_cases hroom : l.length + 1 ≤ cap
    · by_cases hke : k = l.length
      · -- at the end, in place
        subst hke
        have := Any2.slices_Insert_int_end_room layInsert g 0 l.length cap vb 0 1 vc [ni b] w (by omega) hroom (by unfold maxLen at hcm; omega) rfl (fun j hj => by rw [show 0 + l.length + j = l.length by omega]; exact hsome _ (by omega)) (fun j _ => hfz _) hvs h1v
        refine Calls.mono this fun e w' ⟨he, hw⟩ => ⟨_, he, ?_, .inl rfl, by simp [Value.ownBlock], ?_⟩
        · subst hw
          obtain ⟨cur', hb', hs'⟩ := setCells_block g [ni b] (0 + l.length) w hg
          have hr := row_of_cells (ys := l.take l.length ++ b :: l.drop l.length) (cap := cap) hb' (by omega) (by omega) hcm ?_
          · rw [hlen] at hr; exact hr
          · intro j hj
            rw [hlen] at hj
            rw [getD_ins l _ b j (Nat.le_refl _)]
            by_cases hjl : j < l.length
            · rw [if_pos hjl, World.cell?_setCells_out g _ _ _ _ (fun _ _ => .inl (by show j < 0 + l.length; omega))]
              exact hcell j hjl
            · obtain rfl : j = l.length := by omega
              rw [if_neg hjl, if_pos rfl]
              have := World.cell?_setCells_in g [ni b] (0 + l.length) w (fun j hj => by
                obtain rfl : j = 0 := by simpa using hj
                rw [show 0 + l.length + 0 = l.length by omega]; exact hsome _ (by omega)) 0 (by simp)
              rw [show 0 + l.length + 0 = l.length by omega] at this
              rw [this]; rfl
        · subst hw
          exact setCells_kept (X := fun k => (Value.slice (some ⟨g, 0, none⟩) l.length cap).ownBlock = some k) (.inl rfl) _ _ _ (Kept.refl (fun k => (Value.slice (some ⟨g, 0, none⟩) l.length cap).ownBlock = some k) w)
      · -- in the midst, in place
        have hkl : k < l.length := by omega
        have := Any2.slices_Insert_int_shift layInsert g 0 l.length cap k vb 0 1 vc (nis l) [ni b] w hkl (by omega) hroom (by unfold maxLen at hcm; omega) (fun e => hgv e.symm) (nis_length l) rfl hcs (fun j hj => by rw [Nat.zero_add]; exact hsome _ (by omega)) (fun j _ => hfz _) hvs nis_one h1v
          3 3 1 cap (by simp [World.shape?, hvb]) (by simp [World.shape?, hg, hsz]) (by omega) (blk_free hvb 0) (blk_free hvb 1)
        refine Calls.mono this fun e w' ⟨he, hw⟩ => ⟨_, he, ?_, .inl rfl, by simp [Value.ownBlock], ?_⟩
        · subst hw
          have hdl : ((nis l).drop k).length = l.length - k := by rw [List.length_drop, nis_length]
          obtain ⟨cur1, hb1, hs1⟩ := setCells_block g ((nis l).drop k) (0 + (k + 1)) w.drew (show w.drew.heap[g]? = _ from hg)
          obtain ⟨cur', hb', hs'⟩ := setCells_block g [ni b] (0 + k) _ hb1
          have hs1' : ∀ j, j < cap → ((w.drew.setCells g (0 + (k + 1)) ((nis l).drop k)).cell? ⟨g, j, none⟩).isSome = true := by
            intro j hj
            rw [blk_cell hb1]
            simp [show j < cur1.size by omega]
          have hr := row_of_cells (ys := l.take k ++ b :: l.drop k) (cap := cap) hb' (by omega) (by omega) hcm ?_
          · rw [hlen] at hr; exact hr
          · intro j hj
            rw [hlen] at hj
            rw [getD_ins l k b j hk]
            by_cases hjk : j < k
            · rw [if_pos hjk, World.cell?_setCells_out g _ _ _ _ (fun _ _ => .inl (by show j < 0 + k; omega)), World.cell?_setCells_out g _ _ _ _ (fun _ _ => .inl (by show j < 0 + (k + 1); omega))]
              exact hcell j (by omega)
            · rw [if_neg hjk]
              by_cases hje : j = k
              · subst hje
                rw [if_pos rfl]
                have := World.cell?_setCells_in g [ni b] (0 + j) _ (fun i hi => by
                  obtain rfl : i = 0 := by simpa using hi
                  rw [show 0 + j + 0 = j by omega]; exact hs1' _ (by omega)) 0 (by simp)
                rw [show 0 + j + 0 = j by omega] at this
                rw [this]; rfl
              · rw [if_neg hje, World.cell?_setCells_out g _ _ _ _ (fun _ _ => .inr (by show 0 + k + 1 ≤ j; omega))]
                have := World.cell?_setCells_in g ((nis l).drop k) (0 + (k + 1)) w.drew (fun i hi => by
                  rw [hdl] at hi
                  rw [World.cell?_drew]
                  exact hsome _ (by omega)) (j - (k + 1)) (by omega)
                rw [show 0 + (k + 1) + (j - (k + 1)) = j by omega] at this
                rw [this, ← List.getElem?_eq_getElem, List.getElem?_drop, show k + (j - (k + 1)) = j - 1 by omega, nis_get (by omega)]
        · subst hw
          exact setCells_kept (X := fun k => (Value.slice (some ⟨g, 0, none⟩) l.length cap).ownBlock = some k) (.inl rfl) _ _ _ (setCells_kept (X := fun k => (Value.slice (some ⟨g, 0, none⟩) l.length cap).ownBlock = some k) (.inl rfl) _ _ _ (Kept.refl (fun k => (Value.slice (some ⟨g, 0, none⟩) l.length cap).ownBlock = some k) w).drew)
    · have hge := grownCap_ge w (l.length + 1) cap 3
      have hle := grownCap_le_maxLen w (l.length + 1) cap 3 (by unfold maxLen; omega)
      by_cases hke : k = l.length
      · -- at the end, a new list
        subst hke
        have := Any2.slices_Insert_int_end_grow layInsert (some ⟨g, 0, none⟩) l.length cap vb 0 1 vc (nis l) [ni b] w (by omega) hnc (by omega) (by omega) (nis_length l) rfl (fun e => by cases e) (fun a e j u hu => by
          cases e
          have := hcs j u hu
          rw [Nat.zero_add] at this
          rw [← this]
          unfold Addr.add; split <;> simp_all) hvs h1v
        simp only [lay3] at this
        refine Calls.mono this fun e w' ⟨he, hw⟩ => ⟨_, he, ?_, .inr rfl, by simp [Value.ownBlock], ?_⟩
        · subst hw
          have hr := row_of_cells (w := w.drew.alloc (.cells ((nis l ++ [ni b]).toArray ++ Builtin.zeroCells (Value.int .i64 0).cells (grownCap w (l.length + 1) cap 3 - (l.length + 1))) 3)) (ys := l.take l.length ++ b :: l.drop l.length) (cap := grownCap w (l.length + 1) cap 3) (heap_alloc_new _ _) ?_ (by omega) hle ?_
          · rw [hlen] at hr; exact hr
          · simp [Builtin.zeroCells, Value.cells, nis_length]
            omega
          · intro j hj
            rw [hlen] at hj
            rw [show w.drew.heap.size = w.heap.size from rfl, alloc_cell, getD_ins l _ b j (Nat.le_refl _), Array.getElem?_append_left (by simp [nis_length]; omega)]
            by_cases hjl : j < l.length
            · rw [if_pos hjl]
              rw [List.getElem?_toArray, List.getElem?_append_left (by rw [nis_length]; exact hjl), nis_get hjl]
            · obtain rfl : j = l.length := by omega
              rw [if_neg hjl, if_pos rfl]
              simp [nis_length]
        · subst hw
          exact (Kept.refl _ w).drew.alloc _
      · -- in the midst, a new list
        have hkl : k < l.length := by omega
        have := Any2.slices_Insert_int_grow layInsert g 0 l.length cap k vb 0 1 vc (nis l) [ni b] w hkl (by omega) hnc (by omega) (by omega) (nis_length l) rfl hcs hvs nis_one h1v
        simp only [lay3] at this
        refine Calls.mono this fun e w' ⟨he, hw⟩ => ⟨_, he, ?_, .inr rfl, by simp [Value.ownBlock], ?_⟩
        · subst hw
          have hdl : ((nis l).drop k).length = l.length - k := by rw [List.length_drop, nis_length]
          have hz : ((((nis l).take k).toArray ++ Builtin.zeroCells (Value.int .i64 0).cells (l.length + 1 - k) ++ Builtin.zeroCells (Value.int .i64 0).cells (grownCap w (l.length + 1) cap 3 - (l.length + 1)))).size = grownCap w (l.length + 1) cap 3 := by
            simp [Builtin.zeroCells, Value.cells, nis_length]
            omega
          obtain ⟨W1, hW1⟩ : ∃ W1, (w.alloc (.cells (((nis l).take k).toArray ++ Builtin.zeroCells (Value.int .i64 0).cells (l.length + 1 - k) ++ Builtin.zeroCells (Value.int .i64 0).cells (grownCap w (l.length + 1) cap 3 - (l.length + 1))) 3)) = W1 := ⟨_, rfl⟩
          have hb0 : W1.heap[w.heap.size]? = some (.cells (((nis l).take k).toArray ++ Builtin.zeroCells (Value.int .i64 0).cells (l.length + 1 - k) ++ Builtin.zeroCells (Value.int .i64 0).cells (grownCap w (l.length + 1) cap 3 - (l.length + 1))) 3 (0, 0)) := by
            rw [← hW1]; exact heap_alloc_new w _
          rw [hW1]
          have hall : ∀ j, j < k → W1.cell? ⟨w.heap.size, j, none⟩ = some (ni (l.getD j 0)) := by
            intro j hj
            rw [blk_cell hb0, Array.append_assoc, Array.getElem?_append_left (by simp [nis_length]; omega)]
            rw [List.getElem?_toArray, List.getElem?_take_of_lt hj, nis_get (show j < l.length by omega)]
          have hs0 : ∀ j, j < grownCap w (l.length + 1) cap 3 → (W1.cell? ⟨w.heap.size, j, none⟩).isSome = true := by
            intro j hj
            rw [blk_cell hb0, Array.getElem?_eq_getElem (by rw [hz]; exact hj)]
            rfl
          obtain ⟨cur1, hb1, hs1⟩ := setCells_block w.heap.size [ni b] k W1.drew (show W1.drew.heap[w.heap.size]? = _ from hb0)
          obtain ⟨cur', hb', hs'⟩ := setCells_block w.heap.size ((nis l).drop k) (k + 1) _ (show (((W1.drew).setCells w.heap.size k [ni b]).drew).heap[w.heap.size]? = _ from hb1)
          have hs1' : ∀ j, j < grownCap w (l.length + 1) cap 3 → (((W1.drew).setCells w.heap.size k [ni b]).drew.cell? ⟨w.heap.size, j, none⟩).isSome = true := by
            intro j hj
            rw [World.cell?_drew, blk_cell hb1]
            simp [show j < cur1.size by omega]
          have hr := row_of_cells (ys := l.take k ++ b :: l.drop k) (cap := grownCap w (l.length + 1) cap 3) hb' (by omega) (by omega) hle ?_
          · rw [hlen] at hr; exact hr
          · intro j hj
            rw [hlen] at hj
            rw [getD_ins l k b j hk]
            by_cases hjk : j < k
            · rw [if_pos hjk, World.cell?_setCells_out _ _ _ _ _ (fun _ _ => .inl (by show j < k + 1; omega)), World.cell?_drew, World.cell?_setCells_out _ _ _ _ _ (fun _ _ => .inl (by show j < k; omega)), World.cell?_drew]
              exact hall j hjk
            · rw [if_neg hjk]
              by_cases hje : j = k
              · subst hje
                rw [if_pos rfl, World.cell?_setCells_out _ _ _ _ _ (fun _ _ => .inl (by show j < j + 1; omega)), World.cell?_drew]
                have := World.cell?_setCells_in w.heap.size [ni b] j W1.drew (fun i hi => by
                  obtain rfl : i = 0 := by simpa using hi
                  rw [World.cell?_drew]
                  exact hs0 _ (by omega)) 0 (by simp)
                rw [Nat.add_zero] at this
                rw [this]; rfl
              · rw [if_neg hje]
                have := World.cell?_setCells_in w.heap.size ((nis l).drop k) (k + 1) _ (fun i hi => by
                  rw [hdl] at hi
                  exact hs1' _ (by omega)) (j - (k + 1)) (by omega)
                rw [show k + 1 + (j - (k + 1)) = j by omega] at this
                rw [this, ← List.getElem?_eq_getElem, List.getElem?_drop, show k + (j - (k + 1)) = j - 1 by omega, nis_get (by omega)]
        · subst hw
          exact setCells_kept (.inr (Nat.le_refl _)) _ _ _ (setCells_kept (.inr (Nat.le_refl _)) _ _ _ ((Kept.refl _ w).alloc _).drew).drew
end Go.Proofs.Ytlcadkhhpnaofaa
