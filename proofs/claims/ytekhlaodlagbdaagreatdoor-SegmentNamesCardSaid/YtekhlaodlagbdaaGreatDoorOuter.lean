/- Joined texts: Tab, Outer. -/
import Derived.Test.YtekhlaodlagbdaaGreatDoorRangeW
import Derived.Test.YtekhlaodlagbdaaGreatDoorRoundL
import Derived.Laws.OwnMore

/-
  Which edges there are: the tables that findEdges builds, as plain lists, and the document's edges.
-/
namespace Go.Proofs.YtekhlaodlagbdaaGreatDoor
set_option maxRecDepth 100000
open Go.RowKit

theorem side_iff {R C a k v : Nat} (hC : 1 ≤ C) : side R C a k = some v ↔ v < R * C ∧ ((v / C : Nat) : Int) = ((a / C : Nat) : Int) + dnK k ∧ ((v % C : Nat) : Int) = ((a % C : Nat) : Int) + rtK k := by
  constructor
  · intro h
    refine ⟨side_bd h, ?_⟩
    unfold side at h
    split at h
    · rename_i hc
      obtain ⟨h1, h2, h3, h4⟩ := hc
      cases h
      generalize ((a / C : Nat) : Int) + dnK k = r at *
      generalize ((a % C : Nat) : Int) + rtK k = q at *
      obtain ⟨r, rfl⟩ := Int.eq_ofNat_of_zero_le h1
      obtain ⟨q, rfl⟩ := Int.eq_ofNat_of_zero_le h3
      have e : ((r : Int) * (C : Int) + (q : Int)).toNat = C * r + q := by
        have : (r : Int) * (C : Int) + (q : Int) = ((C * r + q : Nat) : Int) := by simp [Int.mul_comm]
        rw [this]; rfl
      have hq : q < C := by omega
      rw [e, Nat.mul_add_div (by omega), Nat.mul_add_mod, Nat.div_eq_of_lt hq, Nat.mod_eq_of_lt hq]
      simp
    · cases h
  · rintro ⟨h1, h2, h3⟩
    have hd : v / C < R := by rw [Nat.div_lt_iff_lt_mul (by omega)]; exact h1
    have hm : v % C < C := Nat.mod_lt _ (by omega)
    have n1 : (0 : Int) ≤ ((v / C : Nat) : Int) := Int.natCast_nonneg _
    have n2 : (0 : Int) ≤ ((v % C : Nat) : Int) := Int.natCast_nonneg _
    unfold side
    rw [← h2, ← h3, if_pos (by omega)]
    congr 1
    have : ((v / C : Nat) : Int) * (C : Int) + ((v % C : Nat) : Int) = ((C * (v / C) + v % C : Nat) : Int) := by simp only [Int.natCast_add, Int.natCast_mul, Int.mul_comm]
    rw [this, Nat.div_add_mod]
    rfl

theorem mem_sidesK {R C a : Nat} {x : Nat × Nat} : x ∈ sidesK R C a 4 ↔ x.2 < 4 ∧ side R C a x.2 = some x.1 := by
  unfold sidesK
  simp only [List.mem_filterMap, List.mem_range, Option.map_eq_some_iff]
  constructor
  · rintro ⟨j, hj, b, hb, rfl⟩
    exact ⟨hj, hb⟩
  · intro ⟨h1, h2⟩
    exact ⟨x.2, h1, x.1, h2, rfl⟩

theorem lt_of_div {C u v : Nat} (h : u / C < v / C) : u < v := by
  rcases Nat.lt_or_ge u v with h' | h'
  · exact h'
  · have := Nat.div_le_div_right (c := C) h'; omega
theorem lt_of_mod {C u v : Nat} (h : u / C = v / C) (h2 : u % C < v % C) : u < v := by
  have e1 := Nat.div_add_mod u C
  have e2 := Nat.div_add_mod v C
  rw [h] at e1
  omega

theorem dn0 : dnK 0 = -1 := rfl
theorem dn1 : dnK 1 = 0 := rfl
theorem dn2 : dnK 2 = 0 := rfl
theorem dn3 : dnK 3 = 1 := rfl
theorem rt0 : rtK 0 = 0 := rfl
theorem rt1 : rtK 1 = -1 := rfl
theorem rt2 : rtK 2 = 1 := rfl
theorem rt3 : rtK 3 = 0 := rfl

theorem sides_rise (R C a : Nat) (hC : 1 ≤ C) : ((sidesK R C a 4).map (·.1)).Pairwise (· < ·) := by
  rw [List.pairwise_map]
  unfold sidesK
  rw [List.pairwise_filterMap]
  have key : ∀ i j : Nat, i < j → j < 4 → ∀ u v, side R C a i = some u → side R C a j = some v → u < v := by
    intro i j hij hj u v hu hv
    obtain ⟨_, u1, u2⟩ := (side_iff hC).1 hu
    obtain ⟨_, v1, v2⟩ := (side_iff hC).1 hv
    have h : (i = 0 ∧ j = 1) ∨ (i = 0 ∧ j = 2) ∨ (i = 0 ∧ j = 3) ∨ (i = 1 ∧ j = 2) ∨ (i = 1 ∧ j = 3) ∨ (i = 2 ∧ j = 3) := by omega
    rcases h with ⟨rfl, rfl⟩ | ⟨rfl, rfl⟩ | ⟨rfl, rfl⟩ | ⟨rfl, rfl⟩ | ⟨rfl, rfl⟩ | ⟨rfl, rfl⟩
    all_goals simp only [dn0, dn1, dn2, dn3, rt0, rt1, rt2, rt3] at u1 u2 v1 v2
    · exact lt_of_div (C := C) (by omega)
    · exact lt_of_div (C := C) (by omega)
    · exact lt_of_div (C := C) (by omega)
    · exact lt_of_mod (C := C) (by omega) (by omega)
    · exact lt_of_div (C := C) (by omega)
    · exact lt_of_div (C := C) (by omega)
  refine List.Pairwise.imp_of_mem (R := (· < ·)) ?_ (by rw [List.range_eq_range']; exact List.pairwise_lt_range' (step := 1))
  intro i j _ hj hij x hx y hy
  simp only [Option.map_eq_some_iff] at hx hy
  obtain ⟨u, hu, rfl⟩ := hx
  obtain ⟨v, hv, rfl⟩ := hy
  exact key i j hij (List.mem_range.1 hj) u v hu hv

/-- The cells that are gone to from cell a. -/
def outs (R C : Nat) (ms : List UInt8) (a : Nat) : List Nat := ((sidesK R C a 4).filter (goes (ms.getD a 0) ms)).map (·.1)
theorem outs_rise (R C : Nat) (ms : List UInt8) (a : Nat) (hC : 1 ≤ C) : (outs R C ms a).Pairwise (· < ·) :=
  (sides_rise R C a hC).sublist (List.filter_sublist.map _)
theorem mem_outs {R C : Nat} {ms : List UInt8} {a b : Nat} : b ∈ outs R C ms a ↔ ∃ k, k < 4 ∧ side R C a k = some b ∧ goes (ms.getD a 0) ms (b, k) = true := by
  unfold outs
  simp only [List.mem_map, List.mem_filter]
  constructor
  · rintro ⟨⟨v, k⟩, ⟨h1, h2⟩, rfl⟩
    have := mem_sidesK.1 h1
    exact ⟨k, this.1, this.2, h2⟩
  · rintro ⟨k, h1, h2, h3⟩
    exact ⟨(b, k), ⟨mem_sidesK.2 ⟨h1, h2⟩, h3⟩, rfl⟩
theorem outs_bd {R C : Nat} {ms : List UInt8} {a b : Nat} (h : b ∈ outs R C ms a) : b < R * C := by
  obtain ⟨k, _, h2, _⟩ := mem_outs.1 h
  exact side_bd h2
theorem outs_len (R C : Nat) (ms : List UInt8) (a : Nat) : (outs R C ms a).length ≤ 4 := by
  unfold outs
  rw [List.length_map]
  refine Nat.le_trans (List.length_filter_le _ _) ?_
  unfold sidesK
  exact Nat.le_trans (List.length_filterMap_le _ _) (by simp)

/-- The tables behind the first n cells. -/
def tabs (R C N : Nat) (ms : List UInt8) : Nat → (Nat → List Nat)
  | 0 => fun _ => []
  | n + 1 => runL N n (ms.getD n 0) ms (tabs R C N ms n) (sidesK R C n 4)
/-- How many edges the first n cells have. -/
def eds (R C : Nat) (ms : List UInt8) : Nat → Nat
  | 0 => 0
  | n + 1 => eds R C ms n + ((sidesK R C n 4).filter (goes (ms.getD n 0) ms)).length

theorem runL_lo {N i : Nat} {c : UInt8} {ms : List UInt8} {j : Nat} (hj : j < N) : ∀ (xs : List (Nat × Nat)) (L : Nat → List Nat),
    runL N i c ms L xs j = L j ++ (if j = i then (xs.filter (goes c ms)).map (·.1) else [])
  | [], L => by simp [runL]
  | x :: xs, L => by
    unfold runL
    rw [runL_lo hj xs]
    by_cases hg : goes c ms x = true
    · rw [if_pos hg, List.filter_cons_of_pos hg]
      have e : push (push L i x.1) (N + x.1) i j = push L i x.1 j := if_neg (by omega)
      rw [e]
      by_cases h : j = i
      · subst h
        rw [if_pos rfl, if_pos rfl]
        show (if j = j then L j ++ [x.1] else L j) ++ _ = _
        rw [if_pos rfl]
        simp
      · rw [if_neg h, if_neg h]
        show (if j = i then L i ++ [x.1] else L j) ++ _ = _
        rw [if_neg h]
    · rw [if_neg hg, List.filter_cons_of_neg hg]

theorem runL_hi {N i : Nat} {c : UInt8} {ms : List UInt8} {u : Nat} (hi : i < N) : ∀ (xs : List (Nat × Nat)) (L : Nat → List Nat),
    runL N i c ms L xs (N + u) = L (N + u) ++ ((xs.filter (goes c ms)).filter (fun x => x.1 == u)).map (fun _ => i)
  | [], L => by simp [runL]
  | x :: xs, L => by
    unfold runL
    rw [runL_hi hi xs]
    by_cases hg : goes c ms x = true
    · rw [if_pos hg, List.filter_cons_of_pos hg]
      by_cases h : x.1 = u
      · rw [List.filter_cons_of_pos (by simp [h]), ← h]
        have e : push (push L i x.1) (N + x.1) i (N + x.1) = push L i x.1 (N + x.1) ++ [i] := if_pos rfl
        have e2 : push L i x.1 (N + x.1) = L (N + x.1) := if_neg (by omega)
        rw [e, e2]
        simp
      · rw [List.filter_cons_of_neg (by simp [h])]
        have e : push (push L i x.1) (N + x.1) i (N + u) = push L i x.1 (N + u) := if_neg (by omega)
        have e2 : push L i x.1 (N + u) = L (N + u) := if_neg (by omega)
        rw [e, e2]
    · rw [if_neg hg, List.filter_cons_of_neg hg]

theorem one_of_nodup (i u : Nat) : ∀ l : List (Nat × Nat), (l.map (·.1)).Pairwise (· < ·) → (l.filter (fun x => x.1 == u)).map (fun _ => i) = if u ∈ l.map (·.1) then [i] else []
  | [], _ => by simp
  | x :: xs, h => by
    rw [List.map_cons, List.pairwise_cons] at h
    have ih := one_of_nodup i u xs h.2
    by_cases e : x.1 = u
    · rw [List.filter_cons_of_pos (by simp [e]), List.map_cons, ih]
      have hn : u ∉ xs.map (·.1) := fun hm => by have := h.1 _ hm; omega
      rw [if_neg hn, if_pos (by simp [e])]
    · rw [List.filter_cons_of_neg (by simp [e]), ih]
      have : (u ∈ (x :: xs).map (·.1)) ↔ u ∈ xs.map (·.1) := by
        rw [List.map_cons, List.mem_cons]
        exact ⟨fun h => h.resolve_left (fun e' => e e'.symm), .inr⟩
      simp only [this]

theorem tabs_lo {R C N : Nat} {ms : List UInt8} {j : Nat} (hj : j < N) : ∀ n, tabs R C N ms n j = if j < n then outs R C ms j else []
  | 0 => by simp [tabs]
  | n + 1 => by
    rw [tabs, runL_lo hj, tabs_lo hj n]
    by_cases h : j = n
    · subst h
      rw [if_pos rfl, if_neg (by omega), if_pos (by omega)]
      rfl
    · rw [if_neg h]
      by_cases h2 : j < n
      · rw [if_pos h2, if_pos (by omega)]; simp
      · rw [if_neg h2, if_neg (by omega)]; rfl

theorem tabs_hi {R C N : Nat} {ms : List UInt8} {u : Nat} (hC : 1 ≤ C) : ∀ n, n ≤ N → tabs R C N ms n (N + u) = (List.range n).filter (fun i => decide (u ∈ outs R C ms i))
  | 0, _ => by simp [tabs]
  | n + 1, hn => by
    rw [tabs, runL_hi (by omega), tabs_hi hC n (by omega), List.range_succ, List.filter_append]
    congr 1
    rw [one_of_nodup n u _ (outs_rise R C ms n hC)]
    show (if u ∈ outs R C ms n then [n] else []) = _
    by_cases h : u ∈ outs R C ms n
    · rw [if_pos h, List.filter_cons_of_pos (by simp [h])]; rfl
    · rw [if_neg h, List.filter_cons_of_neg (by simp [h])]; rfl

theorem runL_len (N i : Nat) (c : UInt8) (ms : List UInt8) (hi : i < N) : ∀ (xs : List (Nat × Nat)) (L : Nat → List Nat) (j : Nat), (runL N i c ms L xs j).length ≤ (L j).length + xs.length
  | [], L, j => by simp [runL]
  | x :: xs, L, j => by
    unfold runL
    refine Nat.le_trans (runL_len N i c ms hi xs _ j) ?_
    by_cases hg : goes c ms x = true
    · rw [if_pos hg]
      have : (push (push L i x.1) (N + x.1) i j).length ≤ (L j).length + 1 := by
        unfold push
        by_cases h1 : j = N + x.1
        · rw [if_pos h1, if_neg (by omega), h1]; simp
        · rw [if_neg h1]
          by_cases h2 : j = i
          · rw [if_pos h2, h2]; simp
          · rw [if_neg h2]; omega
      simp only [List.length_cons]
      omega
    · rw [if_neg hg]
      simp only [List.length_cons]
      omega

theorem sides_len (R C a : Nat) : (sidesK R C a 4).length ≤ 4 := by
  unfold sidesK
  exact Nat.le_trans (List.length_filterMap_le _ _) (by simp)

theorem tabs_len (R C N : Nat) (ms : List UInt8) (j : Nat) : ∀ n, n ≤ N → (tabs R C N ms n j).length ≤ 4 * n
  | 0, _ => by simp [tabs]
  | n + 1, hn => by
    rw [tabs]
    refine Nat.le_trans (runL_len N n _ ms (by omega) _ _ j) ?_
    have := tabs_len R C N ms j n (by omega)
    have := sides_len R C n
    omega
theorem eds_len (R C : Nat) (ms : List UInt8) : ∀ n, eds R C ms n ≤ 4 * n
  | 0 => by simp [eds]
  | n + 1 => by
    rw [eds]
    have := eds_len R C ms n
    have := List.length_filter_le (goes (ms.getD n 0) ms) (sidesK R C n 4)
    have := sides_len R C n
    omega
end Go.Proofs.YtekhlaodlagbdaaGreatDoor

/-
  findEdges: the outer loop.
-/
namespace Go.Proofs.YtekhlaodlagbdaaGreatDoor
set_option maxRecDepth 100000
set_option linter.unusedSimpArgs false
open Go.RowKit
attribute [local go_sem] Oper.semAt_some

/-- What findEdges leaves. -/
structure Found (b R C : Nat) (ms : List UInt8) (w0 W : World) : Prop where
  tables : ∃ gn gb T, Mem w0.heap.size gn gb ms.length [gn, gb] (tabs R C ms.length ms ms.length) T W ∧ W.cell? ⟨b, 6, none⟩ = some (.slice (some ⟨gn, 0, none⟩) ms.length ms.length) ∧
    W.cell? ⟨b, 7, none⟩ = some (.slice (some ⟨gb, 0, none⟩) ms.length ms.length) ∧ w0.heap.size ≤ gn ∧ w0.heap.size ≤ gb
  low : ∀ j, j ≤ 5 → ∀ v, w0.cell? ⟨b, j, none⟩ = some v → W.cell? ⟨b, j, none⟩ = some v
  cnt : W.cell? ⟨b, 8, none⟩ = some (.int .i64 (eds R C ms ms.length : Int))
  free : ∀ j, W.frozen? ⟨b, j, none⟩ = false
  grown : w0.grownBy W (some b)

structure Going (b p1 g cap gn gb R C : Nat) (ms : List UInt8) (av : List Nat) (A : Addr → Value → Prop) (w0 wS : World) (i : Nat) (Ds : List Nat) (W : World) : Prop where
  inv : Inv w0.heap.size gn gb ms.length b i av A (ms.getD i 0) ms (tabs R C ms.length ms i) (eds R C ms i) [] W
  old : Old gn gb b av wS W
  nd : Ds.Nodup
  marks : ∀ D ∈ Ds, wS.heap.size ≤ D ∧ W.heap[D]? = some (.deferred (some []))
  sz : wS.heap.size ≤ W.heap.size

theorem Inv.next {B gn gb N b i R C : Nat} {av : List Nat} {A : Addr → Value → Prop} {c : UInt8} {ms : List UInt8} {W : World}
    (h : Inv B gn gb N b i av A (ms.getD i 0) ms (tabs R C N ms i) (eds R C ms i) (sidesK R C i 4) W) : Inv B gn gb N b (i + 1) av A c ms (tabs R C N ms (i + 1)) (eds R C ms (i + 1)) [] W :=
  ⟨h.mem, h.rd, h.cnt, h.cntf, h.size⟩

def muF (N : Nat) (a : Act) : Nat := match a.tmps[29]? with
  | some (Value.int _ z) => ((N : Int) - z).toNat
  | _ => 0

theorem made_cell {w : World} {q N : Nat} {v : Value} {e : TypeId} {m : Nat × Nat} (h : w.heap[q]? = some (.cells (madeCells #[v] N) e m)) {j : Nat} (hj : j < N) : w.cell? ⟨q, j, none⟩ = some v := by
  rw [blk_cell h]
  have := toList_madeCells_one v N
  rw [← Array.getElem?_toList, this, List.getElem?_replicate, if_pos hj]

/-- The loop's frame. -/
def frameL (f : Nat → Value) (p1 g cap N i : Nat) : Array Value := #[f 0, .pointer (some ⟨p1, 0, none⟩), f 2, f 3, f 4, f 5, f 6, f 7, f 8, f 9, f 10, f 11, f 12, f 13, f 14, f 15, f 16, f 17, f 18, f 19, f 20, f 21, f 22, f 23, f 24, f 25, f 26, .slice (some ⟨g, 0, none⟩) N cap, .int .i64 (N : Int), .int .i64 (i : Int), f 30, f 31, f 32, f 33, f 34, f 35, f 36, f 37, f 38, f 39, f 40, f 41, f 42, f 43, f 44, f 45, f 46, f 47, f 48, f 49, f 50, f 51, f 52, f 53, f 54, f 55, f 56, f 57, f 58, f 59, f 60, f 61, f 62, f 63, f 64, f 65, f 66, f 67, f 68, f 69, f 70, f 71, f 72, f 73, f 74, f 75, f 76, f 77, f 78, f 79, f 80, f 81, f 82, f 83, f 84, f 85, f 86, f 87, f 88, f 89, f 90, f 91, f 92, f 93, f 94]

def outerNode : Code → Option Code
  | .seq a b => (outerNode a).orElse fun _ => outerNode b
  | .block _ c => outerNode c
  | .loop c => some (.loop c)
  | _ => none

set_option maxHeartbeats 4000000 in
theorem outer_any {Q : Exit → Act → World → Prop} (code : Code) (hcode : loopNode ((Tryz.f74).body.getD .skip) = some code)
    (f : Nat → Value) (p1 b g cap gn gb R C : Nat) (ms : List UInt8) (av : List Nat) (A : Addr → Value → Prop) (w0 wS : World)
    (hC : 1 ≤ C) (hC2 : C ≤ 32) (hR : R ≤ 32) (hN : R * C = ms.length)
    (hb0 : A ⟨b, 0, none⟩ (.int .i64 (R : Int))) (hb1 : A ⟨b, 1, none⟩ (.int .i64 (C : Int))) (hb2 : A ⟨b, 2, none⟩ (.slice (some ⟨g, 0, none⟩) ms.length cap)) (hb6 : A ⟨b, 6, none⟩ (.slice (some ⟨gn, 0, none⟩) ms.length ms.length)) (hb7 : A ⟨b, 7, none⟩ (.slice (some ⟨gb, 0, none⟩) ms.length ms.length))
    (hp1 : A ⟨p1, 0, none⟩ (.pointer (some ⟨b, 0, none⟩)))
    (hmk : ∀ u, u < ms.length → A ⟨g, u, none⟩ (.int .u8 ((ms.getD u 0).toNat : Int)))
    (hwy : ∀ j u, waysL[j]? = some u → A ⟨0, j, none⟩ u)
    (hsafe : ∀ p v, A p v → (∃ j, j ≠ 8 ∧ p = ⟨b, j, none⟩) ∨ (p.block ∈ av ∧ p.block ≠ gn ∧ p.block ≠ gb ∧ p.block ≠ b)) (hbav : b ∈ av)
    (h1av : p1 ∈ av) (hd1 : gn ≠ p1) (hdb : gn ≠ b) (he1 : gb ≠ p1) (heb : gb ≠ b)
    (h0 : Going b p1 g cap gn gb R C ms av A w0 wS 0 [] wS)
    (hdone : ∀ (f' : Nat → Value) (Ds : List Nat) (W : World), Going b p1 g cap gn gb R C ms av A w0 wS ms.length Ds W → Q (.exit 0) { tmps := frameL f' p1 g cap ms.length ms.length, defers := Ds.map fun D => { target := .collected D, args := #[] } } W) :
    (Code.loop code).wpIn Fence.wide 9 Tryz.prog Q { tmps := frameL f p1 g cap ms.length 0, defers := [] } wS := by
  have hN1 : ms.length ≤ 1024 := by rw [← hN]; exact Nat.mul_le_mul hR hC2
  have hlenT : ∀ i, i < ms.length → ∀ pre : List (Nat × Nat), pre.length ≤ 4 → ∀ j, (runL ms.length i (ms.getD i 0) ms (tabs R C ms.length ms i) pre j).length ≤ 100000 := by
    intro i hi pre hpre j
    have h1 := runL_len ms.length i (ms.getD i 0) ms hi pre (tabs R C ms.length ms i) j
    have h2 := tabs_len R C ms.length ms j i (by omega)
    omega
  have hlenE : ∀ i, i < ms.length → eds R C ms i ≤ 100000 := fun i hi => by have := eds_len R C ms i; omega
  refine wpIn_loop (fun a W => ∃ (i : Nat) (Ds : List Nat) (f : Nat → Value), i ≤ ms.length ∧ a = { tmps := frameL f p1 g cap ms.length i, defers := Ds.map fun D => { target := .collected D, args := #[] } } ∧ Going b p1 g cap gn gb R C ms av A w0 wS i Ds W) (fun a _ => muF ms.length a) ?start ?round
  case start =>
    exact ⟨0, [], f, Nat.zero_le _, rfl, h0⟩
  case round =>
    rintro a W ⟨i, Ds, f, hi, rfl, hG⟩
    rcases Nat.lt_or_ge i ms.length with hlt | hge
    · unfold frameL
      refine round_in (n := 9) (by omega) code hcode _ _ _ _ _ _ _ _ _ _ _ _ _ _ _ _ _ _ _ _ _ _ _ _ _ _ _ _ _ _ _ _ _ _ _ _ _ _ _ _ _ _ _ _ _ _ _ _ _ _ _ _ _ _ _ _ _ _ _ _ _ _ _ _ _ _ _ _ _ _ _ _ _ _ _ _ _ _ _ _ _ _ _ _ _ _ _ _ _ _ _ (Ds.map fun D => { target := .collected D, args := #[] }) p1 b g cap gn gb ms.length R C i (eds R C ms i) w0.heap.size ms av A (tabs R C ms.length ms i) W hC hC2 hR hlt hN rfl (fun j u hj => hG.inv.rd _ _ (hwy j u hj)) hb0 hb1 hb2 hb6 hb7 hp1 hmk hsafe hbav h1av hd1 hdb he1 heb (hlenT i hlt) (hlenE i hlt) hG.inv hN1 ?_
      intro z0 z1 z2 z3 z4 z5 z6 z7 z8 z9 z10 z11 z12 z13 z14 z15 z16 z17 z18 z19 z20 z21 z22 z23 z24 z25 z26 z27 z28 z29 z30 z31 z32 z33 z34 z35 z36 z37 z38 z39 z40 z41 z42 z43 z44 z45 z46 z47 z48 z49 z50 z51 z52 z53 z54 z55 z56 z57 z58 z59 z60 z61 z62 z63 z64 z65 z66 z67 z68 z69 z70 z71 z72 z73 z74 z75 z76 z77 z78 z79 z80 z81 z82 z83 z84 z85 z86 z87 z88 z89 z90 D W' hD hD' hI hO hDW
      refine ⟨⟨i + 1, D :: Ds, fun j => [z0, undef, z1, z2, z3, z4, z5, z6, z7, z8, z9, z10, z11, z12, z13, z14, z15, z16, z17, z18, z19, z20, z21, z22, z23, z24, z25, undef, undef, undef, z26, z27, z28, z29, z30, z31, z32, z33, z34, z35, z36, z37, z38, z39, z40, z41, z42, z43, z44, z45, z46, z47, z48, z49, z50, z51, z52, z53, z54, z55, z56, z57, z58, z59, z60, z61, z62, z63, z64, z65, z66, z67, z68, z69, z70, z71, z72, z73, z74, z75, z76, z77, z78, z79, z80, z81, z82, z83, z84, z85, z86, z87, z88, z89, z90].getD j undef, by omega, rfl, hI.next, hG.old.trans hO, List.nodup_cons.2 ⟨fun hm => ?_, hG.nd⟩, ?_, ?_⟩, ?_⟩
      · have := blk_lt (hG.marks D hm).2; omega
      · intro E hE
        rcases List.mem_cons.1 hE with rfl | hE
        · exact ⟨Nat.le_trans hG.sz hD, hDW⟩
        · exact ⟨(hG.marks E hE).1, hO.block E _ (hG.marks E hE).2 (.inl rfl)⟩
      · have := hG.sz; omega
      · show ((ms.length : Int) - ((i + 1 : Nat) : Int)).toNat < ((ms.length : Int) - (i : Int)).toNat
        omega
    · obtain rfl : i = ms.length := by omega
      have HG : Hid (Going b p1 g cap gn gb R C ms av A w0 wS ms.length Ds W) := hG
      have HQ := hdone
      clear hG hb0 hb1 hb2 hb6 hb7 hp1 hmk hsafe h0 hdone hwy hlenT hlenE
      simp only [Tryz.f74, Option.getD_some, loopNode, Option.orElse_none, Option.orElse_some, Option.some.injEq, reduceCtorEq] at hcode
      subst hcode
      unfold frameL
      gi_wp2
      exact HQ (fun j => if j = 30 then .bool false else f j) Ds W HG.out
set_option maxHeartbeats 1000000 in
theorem outer_start {Q : Exit → Act → World → Prop} (code : Code) (hcode : loopNode ((Tryz.f74).body.getD .skip) = some code)
    (x0 x2 x3 x4 x5 x6 x7 x8 x9 x10 x11 x12 x13 x14 x15 x16 x17 x18 x19 x20 x21 x22 x23 x24 x25 x26 x30 x31 x32 x33 x34 x35 x36 x37 x38 x39 x40 x41 x42 x43 x44 x45 x46 x47 x48 x49 x50 x51 x52 x53 x54 x55 x56 x57 x58 x59 x60 x61 x62 x63 x64 x65 x66 x67 x68 x69 x70 x71 x72 x73 x74 x75 x76 x77 x78 x79 x80 x81 x82 x83 x84 x85 x86 x87 x88 x89 x90 x91 x92 x93 x94 : Value) (p1 b g cap gn gb R C : Nat) (ms : List UInt8) (av : List Nat) (A : Addr → Value → Prop) (w0 wS : World)
    (hC : 1 ≤ C) (hC2 : C ≤ 32) (hR : R ≤ 32) (hN : R * C = ms.length)
    (hb0 : A ⟨b, 0, none⟩ (.int .i64 (R : Int))) (hb1 : A ⟨b, 1, none⟩ (.int .i64 (C : Int))) (hb2 : A ⟨b, 2, none⟩ (.slice (some ⟨g, 0, none⟩) ms.length cap)) (hb6 : A ⟨b, 6, none⟩ (.slice (some ⟨gn, 0, none⟩) ms.length ms.length)) (hb7 : A ⟨b, 7, none⟩ (.slice (some ⟨gb, 0, none⟩) ms.length ms.length))
    (hp1 : A ⟨p1, 0, none⟩ (.pointer (some ⟨b, 0, none⟩)))
    (hmk : ∀ u, u < ms.length → A ⟨g, u, none⟩ (.int .u8 ((ms.getD u 0).toNat : Int)))
    (hwy : ∀ j u, waysL[j]? = some u → A ⟨0, j, none⟩ u)
    (hsafe : ∀ p v, A p v → (∃ j, j ≠ 8 ∧ p = ⟨b, j, none⟩) ∨ (p.block ∈ av ∧ p.block ≠ gn ∧ p.block ≠ gb ∧ p.block ≠ b)) (hbav : b ∈ av)
    (h1av : p1 ∈ av) (hd1 : gn ≠ p1) (hdb : gn ≠ b) (he1 : gb ≠ p1) (heb : gb ≠ b)
    (h0 : Going b p1 g cap gn gb R C ms av A w0 wS 0 [] wS)
    (hdone : ∀ (f' : Nat → Value) (Ds : List Nat) (W : World), Going b p1 g cap gn gb R C ms av A w0 wS ms.length Ds W → Q (.exit 0) { tmps := frameL f' p1 g cap ms.length ms.length, defers := Ds.map fun D => { target := .collected D, args := #[] } } W) :
    (Code.loop code).wpIn Fence.wide 9 Tryz.prog Q { tmps := #[x0, .pointer (some ⟨p1, 0, none⟩), x2, x3, x4, x5, x6, x7, x8, x9, x10, x11, x12, x13, x14, x15, x16, x17, x18, x19, x20, x21, x22, x23, x24, x25, x26, .slice (some ⟨g, 0, none⟩) ms.length cap, .int .i64 (ms.length : Int), .int .i64 0, x30, x31, x32, x33, x34, x35, x36, x37, x38, x39, x40, x41, x42, x43, x44, x45, x46, x47, x48, x49, x50, x51, x52, x53, x54, x55, x56, x57, x58, x59, x60, x61, x62, x63, x64, x65, x66, x67, x68, x69, x70, x71, x72, x73, x74, x75, x76, x77, x78, x79, x80, x81, x82, x83, x84, x85, x86, x87, x88, x89, x90, x91, x92, x93, x94], defers := [] } wS :=
  outer_any code hcode (fun j => [x0, undef, x2, x3, x4, x5, x6, x7, x8, x9, x10, x11, x12, x13, x14, x15, x16, x17, x18, x19, x20, x21, x22, x23, x24, x25, x26, undef, undef, undef, x30, x31, x32, x33, x34, x35, x36, x37, x38, x39, x40, x41, x42, x43, x44, x45, x46, x47, x48, x49, x50, x51, x52, x53, x54, x55, x56, x57, x58, x59, x60, x61, x62, x63, x64, x65, x66, x67, x68, x69, x70, x71, x72, x73, x74, x75, x76, x77, x78, x79, x80, x81, x82, x83, x84, x85, x86, x87, x88, x89, x90, x91, x92, x93, x94].getD j undef) p1 b g cap gn gb R C ms av A w0 wS hC hC2 hR hN hb0 hb1 hb2 hb6 hb7 hp1 hmk hwy hsafe hbav h1av hd1 hdb he1 heb h0 hdone
end Go.Proofs.YtekhlaodlagbdaaGreatDoor
