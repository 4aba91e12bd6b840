/-
  Which edges there are: the tables that findEdges builds, as plain lists, and the document's edges.
-/
import Derived.Test.YtlkojoinbogkmaaDoorRangeW
namespace Go.Proofs.YtlkojoinbogkmaaDoor
set_option maxRecDepth 100000
open Go.RowKit

theorem side_iff {R C a k v : Nat} (hC : 1 ≤ C) : side R C a k = some v ↔ v < R * C ∧ ((v / C : Nat) : Int) = ((a / C : Nat) : Int) + dnK k ∧ ((v % C : Nat) : Int) = ((a % C : Nat) : Int) + rtK k := by
  constructor
  · intro h
    refine ⟨side_bd h, ?_⟩
    unfold side at h
    split at h
    · rename_i hc
      obtain ⟨h1, h2, h3, h4⟩ := hc
      cases h
      generalize ((a / C : Nat) : Int) + dnK k = r at *
      generalize ((a % C : Nat) : Int) + rtK k = q at *
      obtain ⟨r, rfl⟩ := Int.eq_ofNat_of_zero_le h1
      obtain ⟨q, rfl⟩ := Int.eq_ofNat_of_zero_le h3
      have e : ((r : Int) * (C : Int) + (q : Int)).toNat = C * r + q := by
        have : (r : Int) * (C : Int) + (q : Int) = ((C * r + q : Nat) : Int) := by simp [Int.mul_comm]
        rw [this]; rfl
      have hq : q < C := by omega
      rw [e, Nat.mul_add_div (by omega), Nat.mul_add_mod, Nat.div_eq_of_lt hq, Nat.mod_eq_of_lt hq]
      simp
    · cases h
  · rintro ⟨h1, h2, h3⟩
    have hd : v / C < R := by rw [Nat.div_lt_iff_lt_mul (by omega)]; exact h1
    have hm : v % C < C := Nat.mod_lt _ (by omega)
    have n1 : (0 : Int) ≤ ((v / C : Nat) : Int) := Int.natCast_nonneg _
    have n2 : (0 : Int) ≤ ((v % C : Nat) : Int) := Int.natCast_nonneg _
    unfold side
    rw [← h2, ← h3, if_pos (by omega)]
    congr 1
    have : ((v / C : Nat) : Int) * (C : Int) + ((v % C : Nat) : Int) = ((C * (v / C) + v % C : Nat) : Int) := by simp only [Int.natCast_add, Int.natCast_mul, Int.mul_comm]
    rw [this, Nat.div_add_mod]
    rfl

theorem mem_sidesK {R C a : Nat} {x : Nat × Nat} : x ∈ sidesK R C a 4 ↔ x.2 < 4 ∧ side R C a x.2 = some x.1 := by
  unfold sidesK
  simp only [List.mem_filterMap, List.mem_range, Option.map_eq_some_iff]
  constructor
  · rintro ⟨j, hj, b, hb, rfl⟩
    exact ⟨hj, hb⟩
  · intro ⟨h1, h2⟩
    exact ⟨x.2, h1, x.1, h2, rfl⟩

theorem lt_of_div {C u v : Nat} (h : u / C < v / C) : u < v := by
  rcases Nat.lt_or_ge u v with h' | h'
  · exact h'
  · have := Nat.div_le_div_right (c := C) h'; omega
theorem lt_of_mod {C u v : Nat} (h : u / C = v / C) (h2 : u % C < v % C) : u < v := by
  have e1 := Nat.div_add_mod u C
  have e2 := Nat.div_add_mod v C
  rw [h] at e1
  omega

theorem dn0 : dnK 0 = -1 := rfl
theorem dn1 : dnK 1 = 0 := rfl
theorem dn2 : dnK 2 = 0 := rfl
theorem dn3 : dnK 3 = 1 := rfl
theorem rt0 : rtK 0 = 0 := rfl
theorem rt1 : rtK 1 = -1 := rfl
theorem rt2 : rtK 2 = 1 := rfl
theorem rt3 : rtK 3 = 0 := rfl

theorem sides_rise (R C a : Nat) (hC : 1 ≤ C) : ((sidesK R C a 4).map (·.1)).Pairwise (· < ·) := by
  rw [List.pairwise_map]
  unfold sidesK
  rw [List.pairwise_filterMap]
  have key : ∀ i j : Nat, i < j → j < 4 → ∀ u v, side R C a i = some u → side R C a j = some v → u < v := by
    intro i j hij hj u v hu hv
    obtain ⟨_, u1, u2⟩ := (side_iff hC).1 hu
    obtain ⟨_, v1, v2⟩ := (side_iff hC).1 hv
    have h : (i = 0 ∧ j = 1) ∨ (i = 0 ∧ j = 2) ∨ (i = 0 ∧ j = 3) ∨ (i = 1 ∧ j = 2) ∨ (i = 1 ∧ j = 3) ∨ (i = 2 ∧ j = 3) := by omega
    rcases h with ⟨rfl, rfl⟩ | ⟨rfl, rfl⟩ | ⟨rfl, rfl⟩ | ⟨rfl, rfl⟩ | ⟨rfl, rfl⟩ | ⟨rfl, rfl⟩
    all_goals simp only [dn0, dn1, dn2, dn3, rt0, rt1, rt2, rt3] at u1 u2 v1 v2
    · exact lt_of_div (C := C) (by omega)
    · exact lt_of_div (C := C) (by omega)
    · exact lt_of_div (C := C) (by omega)
    · exact lt_of_mod (C := C) (by omega) (by omega)
    · exact lt_of_div (C := C) (by omega)
    · exact lt_of_div (C := C) (by omega)
  refine List.Pairwise.imp_of_mem (R := (· < ·)) ?_ (by rw [List.range_eq_range']; exact List.pairwise_lt_range' (step := 1))
  intro i j _ hj hij x hx y hy
  simp only [Option.map_eq_some_iff] at hx hy
  obtain ⟨u, hu, rfl⟩ := hx
  obtain ⟨v, hv, rfl⟩ := hy
  exact key i j hij (List.mem_range.1 hj) u v hu hv

/-- The cells that are gone to from cell a. -/
def outs (R C : Nat) (ms : List UInt8) (a : Nat) : List Nat := ((sidesK R C a 4).filter (goes (ms.getD a 0) ms)).map (·.1)
theorem outs_rise (R C : Nat) (ms : List UInt8) (a : Nat) (hC : 1 ≤ C) : (outs R C ms a).Pairwise (· < ·) :=
  (sides_rise R C a hC).sublist (List.filter_sublist.map _)
theorem mem_outs {R C : Nat} {ms : List UInt8} {a b : Nat} : b ∈ outs R C ms a ↔ ∃ k, k < 4 ∧ side R C a k = some b ∧ goes (ms.getD a 0) ms (b, k) = true := by
  unfold outs
  simp only [List.mem_map, List.mem_filter]
  constructor
  · rintro ⟨⟨v, k⟩, ⟨h1, h2⟩, rfl⟩
    have := mem_sidesK.1 h1
    exact ⟨k, this.1, this.2, h2⟩
  · rintro ⟨k, h1, h2, h3⟩
    exact ⟨(b, k), ⟨mem_sidesK.2 ⟨h1, h2⟩, h3⟩, rfl⟩
theorem outs_bd {R C : Nat} {ms : List UInt8} {a b : Nat} (h : b ∈ outs R C ms a) : b < R * C := by
  obtain ⟨k, _, h2, _⟩ := mem_outs.1 h
  exact side_bd h2
theorem outs_len (R C : Nat) (ms : List UInt8) (a : Nat) : (outs R C ms a).length ≤ 4 := by
  unfold outs
  rw [List.length_map]
  refine Nat.le_trans (List.length_filter_le _ _) ?_
  unfold sidesK
  exact Nat.le_trans (List.length_filterMap_le _ _) (by simp)

/-- The tables behind the first n cells. -/
def tabs (R C N : Nat) (ms : List UInt8) : Nat → (Nat → List Nat)
  | 0 => fun _ => []
  | n + 1 => runL N n (ms.getD n 0) ms (tabs R C N ms n) (sidesK R C n 4)
/-- How many edges the first n cells have. -/
def eds (R C : Nat) (ms : List UInt8) : Nat → Nat
  | 0 => 0
  | n + 1 => eds R C ms n + ((sidesK R C n 4).filter (goes (ms.getD n 0) ms)).length

theorem runL_lo {N i : Nat} {c : UInt8} {ms : List UInt8} {j : Nat} (hj : j < N) : ∀ (xs : List (Nat × Nat)) (L : Nat → List Nat),
    runL N i c ms L xs j = L j ++ (if j = i then (xs.filter (goes c ms)).map (·.1) else [])
  | [], L => by simp [runL]
  | x :: xs, L => by
    unfold runL
    rw [runL_lo hj xs]
    by_cases hg : goes c ms x = true
    · rw [if_pos hg, List.filter_cons_of_pos hg]
      have e : push (push L i x.1) (N + x.1) i j = push L i x.1 j := if_neg (by omega)
      rw [e]
      by_cases h : j = i
      · subst h
        rw [if_pos rfl, if_pos rfl]
        show (if j = j then L j ++ [x.1] else L j) ++ _ = _
        rw [if_pos rfl]
        simp
      · rw [if_neg h, if_neg h]
        show (if j = i then L i ++ [x.1] else L j) ++ _ = _
        rw [if_neg h]
    · rw [if_neg hg, List.filter_cons_of_neg hg]

theorem runL_hi {N i : Nat} {c : UInt8} {ms : List UInt8} {u : Nat} (hi : i < N) : ∀ (xs : List (Nat × Nat)) (L : Nat → List Nat),
    runL N i c ms L xs (N + u) = L (N + u) ++ ((xs.filter (goes c ms)).filter (fun x => x.1 == u)).map (fun _ => i)
  | [], L => by simp [runL]
  | x :: xs, L => by
    unfold runL
    rw [runL_hi hi xs]
    by_cases hg : goes c ms x = true
    · rw [if_pos hg, List.filter_cons_of_pos hg]
      by_cases h : x.1 = u
      · rw [List.filter_cons_of_pos (by simp [h]), ← h]
        have e : push (push L i x.1) (N + x.1) i (N + x.1) = push L i x.1 (N + x.1) ++ [i] := if_pos rfl
        have e2 : push L i x.1 (N + x.1) = L (N + x.1) := if_neg (by omega)
        rw [e, e2]
        simp
      · rw [List.filter_cons_of_neg (by simp [h])]
        have e : push (push L i x.1) (N + x.1) i (N + u) = push L i x.1 (N + u) := if_neg (by omega)
        have e2 : push L i x.1 (N + u) = L (N + u) := if_neg (by omega)
        rw [e, e2]
    · rw [if_neg hg, List.filter_cons_of_neg hg]

theorem one_of_nodup (i u : Nat) : ∀ l : List (Nat × Nat), (l.map (·.1)).Pairwise (· < ·) → (l.filter (fun x => x.1 == u)).map (fun _ => i) = if u ∈ l.map (·.1) then [i] else []
  | [], _ => by simp
  | x :: xs, h => by
    rw [List.map_cons, List.pairwise_cons] at h
    have ih := one_of_nodup i u xs h.2
    by_cases e : x.1 = u
    · rw [List.filter_cons_of_pos (by simp [e]), List.map_cons, ih]
      have hn : u ∉ xs.map (·.1) := fun hm => by have := h.1 _ hm; omega
      rw [if_neg hn, if_pos (by simp [e])]
    · rw [List.filter_cons_of_neg (by simp [e]), ih]
      have : (u ∈ (x :: xs).map (·.1)) ↔ u ∈ xs.map (·.1) := by
        rw [List.map_cons, List.mem_cons]
        exact ⟨fun h => h.resolve_left (fun e' => e e'.symm), .inr⟩
      simp only [this]

theorem tabs_lo {R C N : Nat} {ms : List UInt8} {j : Nat} (hj : j < N) : ∀ n, tabs R C N ms n j = if j < n then outs R C ms j else []
  | 0 => by simp [tabs]
  | n + 1 => by
    rw [tabs, runL_lo hj, tabs_lo hj n]
    by_cases h : j = n
    · subst h
      rw [if_pos rfl, if_neg (by omega), if_pos (by omega)]
      rfl
    · rw [if_neg h]
      by_cases h2 : j < n
      · rw [if_pos h2, if_pos (by omega)]; simp
      · rw [if_neg h2, if_neg (by omega)]; rfl

theorem tabs_hi {R C N : Nat} {ms : List UInt8} {u : Nat} (hC : 1 ≤ C) : ∀ n, n ≤ N → tabs R C N ms n (N + u) = (List.range n).filter (fun i => decide (u ∈ outs R C ms i))
  | 0, _ => by simp [tabs]
  | n + 1, hn => by
    rw [tabs, runL_hi (by omega), tabs_hi hC n (by omega), List.range_succ, List.filter_append]
    congr 1
    rw [one_of_nodup n u _ (outs_rise R C ms n hC)]
    show (if u ∈ outs R C ms n then [n] else []) = _
    by_cases h : u ∈ outs R C ms n
    · rw [if_pos h, List.filter_cons_of_pos (by simp [h])]; rfl
    · rw [if_neg h, List.filter_cons_of_neg (by simp [h])]; rfl

theorem runL_len (N i : Nat) (c : UInt8) (ms : List UInt8) (hi : i < N) : ∀ (xs : List (Nat × Nat)) (L : Nat → List Nat) (j : Nat), (runL N i c ms L xs j).length ≤ (L j).length + xs.length
  | [], L, j => by simp [runL]
  | x :: xs, L, j => by
    unfold runL
    refine Nat.le_trans (runL_len N i c ms hi xs _ j) ?_
    by_cases hg : goes c ms x = true
    · rw [if_pos hg]
      have : (push (push L i x.1) (N + x.1) i j).length ≤ (L j).length + 1 := by
        unfold push
        by_cases h1 : j = N + x.1
        · rw [if_pos h1, if_neg (by omega), h1]; simp
        · rw [if_neg h1]
          by_cases h2 : j = i
          · rw [if_pos h2, h2]; simp
          · rw [if_neg h2]; omega
      simp only [List.length_cons]
      omega
    · rw [if_neg hg]
      simp only [List.length_cons]
      omega

theorem sides_len (R C a : Nat) : (sidesK R C a 4).length ≤ 4 := by
  unfold sidesK
  exact Nat.le_trans (List.length_filterMap_le _ _) (by simp)

theorem tabs_len (R C N : Nat) (ms : List UInt8) (j : Nat) : ∀ n, n ≤ N → (tabs R C N ms n j).length ≤ 4 * n
  | 0, _ => by simp [tabs]
  | n + 1, hn => by
    rw [tabs]
    refine Nat.le_trans (runL_len N n _ ms (by omega) _ _ j) ?_
    have := tabs_len R C N ms j n (by omega)
    have := sides_len R C n
    omega
theorem eds_len (R C : Nat) (ms : List UInt8) : ∀ n, eds R C ms n ≤ 4 * n
  | 0 => by simp [eds]
  | n + 1 => by
    rw [eds]
    have := eds_len R C ms n
    have := List.length_filter_le (goes (ms.getD n 0) ms) (sidesK R C n 4)
    have := sides_len R C n
    omega
end Go.Proofs.YtlkojoinbogkmaaDoor
