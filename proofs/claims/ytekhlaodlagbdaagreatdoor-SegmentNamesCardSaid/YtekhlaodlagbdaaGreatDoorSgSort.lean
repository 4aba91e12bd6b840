/-
  The library's slices.Sort at this program: the table of numbers, and each fact by the program's own equations or the kernel's comparison; and its contract for a list of the call's own.
-/
import Derived.Test.YtekhlaodlagbdaaGreatDoorSgE
import Derived.Test.YtekhlaodlagbdaaGreatDoorSgLay
import Derived.Shelf.Sort.AssemblyIn
import Derived.Sort.EveryDepth
import Derived.Shelf.Sort.Plain
import Derived.Shelf.Slices.In.SortNone
namespace Go.Proofs.YtekhlaodlagbdaaGreatDoor
set_option maxRecDepth 100000
open Go Go.RowKit Go.Shelf

def laySort_ren : Go.Shelf.Ren := ⟨fun | 189 => 64 | 125 => 94 | 257 => 93 | 128 => 123 | 129 => 124 | 294 => 114 | 295 => 115 | 296 => 116 | 297 => 117 | 298 => 118 | 299 => 119 | 216 => 120 | 300 => 121 | 301 => 122 | 328 => 143 | 329 => 144 | 330 => 145 | 331 => 146 | 332 => 147 | 215 => 96 | 343 => 161 | n => n, fun | 28 => 36 | 3 => 3 | 46 => 124 | 0 => 0 | 51 => 54 | 53 => 149 | 4 => 4 | 183 => 154 | 182 => 153 | 131 => 158 | 5 => 5 | 9 => 9 | 218 => 185 | 222 => 189 | 228 => 200 | 229 => 80 | n => n, fun | n => n⟩
theorem laySort : Go.Proofs.Lays.n189 Tryz.prog laySort_ren := {
  mixed := by kernel_rfl,
  f125 := Tryz.func94.trans (congrArg some (by kernel_rfl)),
  f128 := Tryz.func123.trans (congrArg some (by kernel_rfl)),
  f129 := Tryz.func124.trans (congrArg some (by kernel_rfl)),
  f189 := Tryz.func64.trans (congrArg some (by kernel_rfl)),
  f215 := Tryz.func96.trans (congrArg some (by kernel_rfl)),
  f216 := Tryz.func120.trans (congrArg some (by kernel_rfl)),
  f257 := Tryz.func93.trans (congrArg some (by kernel_rfl)),
  f294 := Tryz.func114.trans (congrArg some (by kernel_rfl)),
  f295 := Tryz.func115.trans (congrArg some (by kernel_rfl)),
  f296 := Tryz.func116.trans (congrArg some (by kernel_rfl)),
  f297 := Tryz.func117.trans (congrArg some (by kernel_rfl)),
  f298 := Tryz.func118.trans (congrArg some (by kernel_rfl)),
  f299 := Tryz.func119.trans (congrArg some (by kernel_rfl)),
  f300 := Tryz.func121.trans (congrArg some (by kernel_rfl)),
  f301 := Tryz.func122.trans (congrArg some (by kernel_rfl)),
  f328 := Tryz.func143.trans (congrArg some (by kernel_rfl)),
  f329 := Tryz.func144.trans (congrArg some (by kernel_rfl)),
  f330 := Tryz.func145.trans (congrArg some (by kernel_rfl)),
  f331 := Tryz.func146.trans (congrArg some (by kernel_rfl)),
  f332 := Tryz.func147.trans (congrArg some (by kernel_rfl)),
  f343 := Tryz.func161.trans (congrArg some (by kernel_rfl)),
  t0 := Tryz.underlying0,
  a0 := Tryz.isAgg0,
  z0 := Tryz.sizeOf0,
  v0 := Tryz.zeroValue0,
  t3 := Tryz.underlying3,
  a3 := Tryz.isAgg3,
  z3 := Tryz.sizeOf3,
  v3 := Tryz.zeroValue3,
  t4 := Tryz.underlying4,
  a4 := Tryz.isAgg4,
  z4 := Tryz.sizeOf4,
  v4 := Tryz.zeroValue4,
  t5 := Tryz.underlying5,
  a5 := Tryz.isAgg5,
  z5 := Tryz.sizeOf5,
  v5 := Tryz.zeroValue5,
  t9 := Tryz.underlying9,
  a9 := Tryz.isAgg9,
  z9 := Tryz.sizeOf9,
  v9 := Tryz.zeroValue9,
  t28 := Tryz.underlying36,
  a28 := Tryz.isAgg36,
  z28 := Tryz.sizeOf36,
  v28 := Tryz.zeroValue36,
  t46 := Tryz.underlying124,
  a46 := Tryz.isAgg124,
  z46 := Tryz.sizeOf124,
  v46 := Tryz.zeroValue124,
  t51 := Tryz.underlying54,
  a51 := Tryz.isAgg54,
  z51 := Tryz.sizeOf54,
  v51 := Tryz.zeroValue54,
  t53 := Tryz.underlying149,
  a53 := Tryz.isAgg149,
  z53 := Tryz.sizeOf149,
  v53 := Tryz.zeroValue149,
  t131 := Tryz.underlying158,
  a131 := Tryz.isAgg158,
  z131 := Tryz.sizeOf158,
  v131 := Tryz.zeroValue158,
  t182 := Tryz.underlying153,
  a182 := Tryz.isAgg153,
  z182 := Tryz.sizeOf153,
  v182 := Tryz.zeroValue153,
  t183 := Tryz.underlying154,
  a183 := Tryz.isAgg154,
  z183 := Tryz.sizeOf154,
  v183 := Tryz.zeroValue154,
  t218 := Tryz.underlying185,
  a218 := Tryz.isAgg185,
  z218 := Tryz.sizeOf185,
  v218 := Tryz.zeroValue185,
  t222 := Tryz.underlying189,
  a222 := Tryz.isAgg189,
  z222 := Tryz.sizeOf189,
  v222 := Tryz.zeroValue189,
  t228 := Tryz.underlying200,
  a228 := Tryz.isAgg200,
  z228 := Tryz.sizeOf200,
  v228 := Tryz.zeroValue200,
  t229 := Tryz.underlying80,
  a229 := Tryz.isAgg80,
  z229 := Tryz.sizeOf80,
  v229 := Tryz.zeroValue80 }


def intsQ (l : List Nat) : List Int := l.map (fun n : Nat => (n : Int))
theorem intsQ_length (l : List Nat) : (intsQ l).length = l.length := by simp [intsQ]
theorem natV_get {l : List Nat} {j : Nat} (h : j < l.length) : (l.map natV)[j]? = some (natV (l.getD j 0)) := by simp [List.getD, h]

def srtQ (l : List Nat) : List Nat := l.mergeSort fun x y => decide (x ≤ y)
theorem srtQ_length (l : List Nat) : (srtQ l).length = l.length := by simp [srtQ]
theorem intsQ_srt (l : List Nat) : (intsQ l).mergeSort (fun x y => decide (x ≤ y)) = intsQ (srtQ l) := by
  unfold intsQ srtQ
  rw [List.map_mergeSort]
  intro a _ b _
  simp
theorem rowQ_of_cells {w : World} {g cap base : Nat} {cur : Array Value} {ys : List Nat} (hb : w.heap[g]? = some (.cells cur 3 (0, 0))) (hbase : base ≤ g) (hs : cur.size = cap) (hn : ys.length ≤ cap) (hcap : cap ≤ maxLen)
    (hc : ∀ j, j < ys.length → w.cell? ⟨g, j, none⟩ = some (natV (ys.getD j 0))) : w.ownsRow base 3 1 (.slice (some ⟨g, 0, none⟩) ys.length cap) ys.length (ys.map natV) := by
  refine ⟨by rw [List.length_map]; omega, .inr ⟨g, cap, cur, rfl, hbase, hb, hn, hcap, by omega, ?_⟩⟩
  apply List.ext_getElem?
  intro j
  by_cases hj : j < ys.length
  · rw [List.getElem?_take_of_lt (by omega), natV_get hj, ← hc j hj, blk_cell hb, Array.getElem?_toList]
  · rw [List.getElem?_take_eq_none (by omega), List.getElem?_eq_none (by rw [List.length_map]; omega)]

theorem sortQ_any {w : World} {base : Nat} {v : Value} {l : List Nat} (h : w.ownsRow base 3 1 v l.length (l.map natV)) (hl : l.length ≤ 100000) :
    Calls Tryz.prog 64 #[v] w fun e w' => e = .returned (.tuple #[]) ∧ w'.ownsRow base 3 1 v (srtQ l).length ((srtQ l).map natV) ∧ Kept (fun k => v.ownBlock = some k) w w' := by
  rcases h.2 with ⟨rfl, h0⟩ | ⟨g, cap, cur, rfl, hbase, hg, h1, h2, h3, h4⟩
  · obtain rfl : l = [] := List.eq_nil_of_length_eq_zero h0
    refine (Any.slices_Sort_int_none laySort none 0 w).mono ?_
    rintro e w' ⟨rfl, rfl⟩
    have e : srtQ [] = [] := by simp [srtQ]
    rw [e]
    exact ⟨rfl, h, Kept.refl _ _⟩
  · have HO : w.ownsRow base 3 1 (.slice (some ⟨g, 0, none⟩) l.length cap) l.length (l.map natV) := h
    have := Any.slices_Sort_int laySort g 0 cap (intsQ l) w (by
      intro j hj
      have hj : j < l.length := by simpa [intsQ] using hj
      refine ⟨?_, by rw [Nat.zero_add]; exact HO.frozenAt j⟩
      rw [Nat.zero_add, HO.cellAt j (by omega), natV_get hj]
      simp [natV, intsQ, hj]) (blk_lt hg) (by rw [intsQ_length]; omega)
    rw [intsQ_srt, intsQ_length] at this
    refine Calls.mono this ?_
    rintro e w' ⟨rfl, n, os, rfl⟩
    have hgl := blk_lt hg
    have hheap : ∀ k, k < w.heap.size → (Sort.grow (Sort.putRow (Value.int .i64) (Sort.ahead w n) g 0 (intsQ (srtQ l)).toArray) os).heap[k]? = if g = k then (w.heap[k]?).map (Sort.onCells (Sort.putCells (Value.int .i64) 0 (intsQ (srtQ l)).toArray)) else w.heap[k]? := by
      intro k hk
      show (_ ++ os)[k]? = _
      rw [Array.getElem?_append, if_pos (by simpa [Sort.putRow, Sort.mapBlock, Sort.ahead] using hk)]
      simp only [Sort.putRow, Sort.mapBlock, Sort.ahead, Array.getElem?_modify]
    have hb := hheap g hgl
    rw [if_pos rfl, hg] at hb
    refine ⟨rfl, ?_, ⟨rfl, rfl, rfl, by simp [Sort.grow, Sort.putRow, Sort.mapBlock, Sort.ahead], fun k hk hx => ?_⟩⟩
    · rw [← srtQ_length]
      refine rowQ_of_cells (cap := cap) hb hbase (by simp [Sort.putCells]; omega) (by rw [srtQ_length]; exact h1) h2 ?_
      intro j hj
      rw [blk_cell hb]
      rw [srtQ_length] at hj
      have hjc : j < cur.size := by omega
      have e2 : j < (srtQ l).length := by rw [srtQ_length]; exact hj
      simp [Sort.putCells, hjc, intsQ, e2, natV, List.getD]
    · rw [hheap k hk, if_neg (fun e => hx (by show some g = some k; rw [e]))]

/-! Compact, Reverse -/
theorem intsQ_bang {l : List Nat} {k : Nat} (h : k < l.length) : (intsQ l).toArray[k]! = (l[k] : Int) := by
  rw [getElem!_pos (intsQ l).toArray k (by simpa [intsQ] using h)]
  simp [intsQ]
theorem compact_part {l : List Nat} (h : l.Pairwise (· ≤ ·)) : ∀ k, k ≤ l.length → ∃ m : List Nat, Lib.compactUpTo (intsQ l).toArray k = intsQ m ∧ m.Pairwise (· < ·) ∧ ∀ x, x ∈ m ↔ x ∈ l.take k := by
  intro k
  induction k with
  | zero => intro _; exact ⟨[], by simp [Lib.compactUpTo, intsQ], .nil, fun x => by simp⟩
  | succ k ih =>
    intro hk
    obtain ⟨m, h1, h2, h3⟩ := ih (by omega)
    have hkl : k < l.length := by omega
    rw [Lib.compactUpTo_succ, h1, List.take_succ_eq_append_getElem hkl, intsQ_bang hkl]
    rw [List.pairwise_iff_getElem] at h
    by_cases hp : Lib.keeps (intsQ l).toArray k = true
    · rw [if_pos hp]
      refine ⟨m ++ [l[k]], by simp [intsQ], ?_, fun x => by rw [List.mem_append, List.mem_append, h3 x]⟩
      rw [List.pairwise_append]
      refine ⟨h2, by simp, fun x hx y hy => ?_⟩
      obtain rfl := List.mem_singleton.1 hy
      obtain ⟨i, hi, rfl⟩ := List.mem_iff_getElem.1 ((h3 x).1 hx)
      have hi' : i < k := by rw [List.length_take] at hi; omega
      rw [List.getElem_take]
      have h5 := h (k - 1) k (by omega) hkl (by omega)
      have h6 : l[i] ≤ l[k - 1] := by
        rcases Nat.lt_or_ge i (k - 1) with h7 | h7
        · exact h i (k - 1) (by omega) (by omega) h7
        · have : i = k - 1 := by omega
          subst this
          exact Nat.le_refl _
      unfold Lib.keeps at hp
      rw [decide_eq_true_eq, intsQ_bang hkl, intsQ_bang (k := k - 1) (by omega)] at hp
      omega
    · rw [if_neg hp]
      refine ⟨m, by simp, h2, fun x => ?_⟩
      rw [h3 x, List.mem_append, List.mem_singleton]
      constructor
      · exact .inl
      · rintro (h4 | rfl)
        · exact h4
        · unfold Lib.keeps at hp
          rw [decide_eq_true_eq] at hp
          have hk0 : k ≠ 0 := fun e => hp (.inl e)
          have h6 : ((intsQ l).toArray[k]!) = ((intsQ l).toArray[k - 1]!) := Decidable.of_not_not (fun e => hp (.inr e))
          rw [intsQ_bang hkl, intsQ_bang (k := k - 1) (by omega)] at h6
          have h7 : l[k] = l[k - 1] := by omega
          rw [h7]
          exact List.mem_iff_getElem.2 ⟨k - 1, by rw [List.length_take]; omega, by rw [List.getElem_take]⟩
/-- Of a list that does not fall Compact makes one that rises. -/
theorem compact_rise {l : List Nat} (h : l.Pairwise (· ≤ ·)) : ∃ m : List Nat, Lib.compact (intsQ l) = intsQ m ∧ m.Pairwise (· < ·) ∧ ∀ x, x ∈ m ↔ x ∈ l := by
  obtain ⟨m, h1, h2, h3⟩ := compact_part h l.length (Nat.le_refl _)
  refine ⟨m, ?_, h2, fun x => by rw [h3 x, List.take_length]⟩
  unfold Lib.compact
  rw [intsQ_length]
  exact h1
theorem compactQ_any {w : World} {base : Nat} {v : Value} {l m : List Nat} (h : w.ownsRow base 3 1 v l.length (l.map natV)) (hl : l.length ≤ 100000) (hm : Lib.compact (intsQ l) = intsQ m) (hle : m.length ≤ l.length) :
    Calls Tryz.prog 65 #[v] w fun e w' => ∃ v', e = .returned v' ∧ v'.ownBlock = v.ownBlock ∧ w'.ownsRow base 3 1 v' m.length (m.map natV) ∧ Kept (fun k => v.ownBlock = some k) w w' := by
  rcases h.2 with ⟨rfl, h0⟩ | ⟨g, cap, cur, rfl, hbase, hg, h1, h2, h3, h4⟩
  · obtain rfl : l = [] := List.eq_nil_of_length_eq_zero h0
    obtain rfl : m = [] := List.eq_nil_of_length_eq_zero (by simpa using hle)
    refine (Any.slices_Compact_int_empty layCompact none 0 w).mono ?_
    rintro e w' ⟨rfl, rfl⟩
    exact ⟨_, rfl, rfl, h, Kept.refl _ _⟩
  · have HO : w.ownsRow base 3 1 (.slice (some ⟨g, 0, none⟩) l.length cap) l.length (l.map natV) := h
    have := Any.slices_Compact_int layCompact g 0 cap (intsQ l) w (by
      intro j hj
      have hj : j < l.length := by simpa [intsQ] using hj
      refine ⟨?_, by rw [Nat.zero_add]; exact HO.frozenAt j⟩
      rw [Nat.zero_add, HO.cellAt j (by omega), natV_get hj]
      simp [natV, intsQ, hj]) (by rw [intsQ_length]; omega) (by rw [intsQ_length]; omega)
    rw [hm, intsQ_length, intsQ_length] at this
    refine Calls.mono this ?_
    rintro e w' ⟨rfl, n, rfl⟩
    have hgl := blk_lt hg
    generalize hD : (intsQ m ++ List.replicate (l.length - m.length) 0).toArray = D
    have hheap : ∀ k, (Sort.putRow (Value.int .i64) (Sort.ahead w n) g 0 D).heap[k]? = if g = k then (w.heap[k]?).map (Sort.onCells (Sort.putCells (Value.int .i64) 0 D)) else w.heap[k]? := by
      intro k
      simp only [Sort.putRow, Sort.mapBlock, Sort.ahead, Array.getElem?_modify]
    have hb := hheap g
    rw [if_pos rfl, hg] at hb
    refine ⟨_, rfl, rfl, ?_, ⟨rfl, rfl, rfl, by simp [Sort.putRow, Sort.mapBlock, Sort.ahead], fun k hk hx => ?_⟩⟩
    · refine rowQ_of_cells (cap := cap) hb hbase (by simp [Sort.putCells]; omega) (by omega) h2 ?_
      intro j hj
      rw [blk_cell hb]
      have hjc : j < cur.size := by omega
      have e2 : D[j]? = some ((m.getD j 0 : Nat) : Int) := by
        rw [← hD]
        simp [intsQ, List.getElem?_append_left, hj, List.getD]
      have e3 : j < D.size := (Array.getElem?_eq_some_iff.1 e2).1
      have e4 : D[j] = ((m.getD j 0 : Nat) : Int) := (Array.getElem?_eq_some_iff.1 e2).2
      simp [Sort.putCells, hjc, e3, e4, natV]
    · rw [hheap k, if_neg (fun e => hx (by show some g = some k; rw [e]))]
theorem reverseQ_any {w : World} {base : Nat} {v : Value} {l : List Nat} (h : w.ownsRow base 3 1 v l.length (l.map natV)) (hl : l.length ≤ 100000) :
    Calls Tryz.prog 89 #[v] w fun e w' => e = .returned (.tuple #[]) ∧ w'.ownsRow base 3 1 v l.length (l.reverse.map natV) ∧ Kept (fun k => v.ownBlock = some k) w w' := by
  rcases h.2 with ⟨rfl, h0⟩ | ⟨g, cap, cur, rfl, hbase, hg, h1, h2, h3, h4⟩
  · obtain rfl : l = [] := List.eq_nil_of_length_eq_zero h0
    refine (Any.slices_Reverse_int_empty layReverse none 0 w).mono ?_
    rintro e w' ⟨rfl, rfl⟩
    exact ⟨rfl, h, Kept.refl _ _⟩
  · have HO : w.ownsRow base 3 1 (.slice (some ⟨g, 0, none⟩) l.length cap) l.length (l.map natV) := h
    have := Any.slices_Reverse_int layReverse g 0 cap (intsQ l) w (by
      intro j hj
      have hj : j < l.length := by simpa [intsQ] using hj
      refine ⟨?_, by rw [Nat.zero_add]; exact HO.frozenAt j⟩
      rw [Nat.zero_add, HO.cellAt j (by omega), natV_get hj]
      simp [natV, intsQ, hj]) (by rw [intsQ_length]; omega)
    have hrev : (intsQ l).reverse = intsQ l.reverse := by simp [intsQ]
    rw [hrev, intsQ_length] at this
    refine Calls.mono this ?_
    rintro e w' ⟨rfl, n, rfl⟩
    have hgl := blk_lt hg
    generalize hD : (intsQ l.reverse).toArray = D
    have hheap : ∀ k, (Sort.putRow (Value.int .i64) (Sort.ahead w n) g 0 D).heap[k]? = if g = k then (w.heap[k]?).map (Sort.onCells (Sort.putCells (Value.int .i64) 0 D)) else w.heap[k]? := by
      intro k
      simp only [Sort.putRow, Sort.mapBlock, Sort.ahead, Array.getElem?_modify]
    have hb := hheap g
    rw [if_pos rfl, hg] at hb
    refine ⟨rfl, ?_, ⟨rfl, rfl, rfl, by simp [Sort.putRow, Sort.mapBlock, Sort.ahead], fun k hk hx => ?_⟩⟩
    · have hrl : l.reverse.length = l.length := List.length_reverse
      rw [← hrl]
      refine rowQ_of_cells (cap := cap) hb hbase (by simp [Sort.putCells]; omega) (by rw [List.length_reverse]; omega) h2 ?_
      intro j hj
      rw [blk_cell hb]
      have hj' : j < l.length := by simpa using hj
      have hjc : j < cur.size := by omega
      have e2 : D[j]? = some ((l.reverse.getD j 0 : Nat) : Int) := by
        rw [← hD]
        simp only [intsQ, List.getElem?_toArray, List.getElem?_map, List.getElem?_eq_getElem hj, Option.map_some, List.getD, Option.getD_some]
      have e3 : j < D.size := (Array.getElem?_eq_some_iff.1 e2).1
      have e4 : D[j] = ((l.reverse.getD j 0 : Nat) : Int) := (Array.getElem?_eq_some_iff.1 e2).2
      simp only [Sort.putCells]
      simp [hjc, e3, e4, natV]
    · rw [hheap k, if_neg (fun e => hx (by show some g = some k; rw [e]))]
end Go.Proofs.YtekhlaodlagbdaaGreatDoor
