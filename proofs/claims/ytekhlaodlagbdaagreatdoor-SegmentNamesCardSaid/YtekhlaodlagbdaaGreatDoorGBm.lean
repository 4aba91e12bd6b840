/- Joined texts: M1, GBm. -/
import Derived.Test.YtekhlaodlagbdaaGreatDoorSt

/-
  One map in memory, from call to call; and the law's own example.
-/
namespace Go.Proofs.YtekhlaodlagbdaaGreatDoor
set_option maxRecDepth 100000
set_option linter.unusedSimpArgs false
open Go.RowKit

structure M1 (w0 : World) (bm gm cm R C : Nat) (ms : List UInt8) (w : World) : Prop where
  em : EM bm gm cm R C ms w
  bl : Below w0.heap.size w0 w
  lo : w0.heap.size ≤ bm

section
variable {w0 w w' : World} {bm gm cm R C : Nat} {ms : List UInt8}

theorem M1.below (h : M1 w0 bm gm cm R C ms w) (hb : Below w.heap.size w w') : M1 w0 bm gm cm R C ms w' := ⟨h.em.below hb, h.bl.trans (hb.mono h.bl.size), h.lo⟩
theorem M1.turned (h : M1 w0 bm gm cm R C ms w) (he : EM bm gm cm R C ms w') (hg : w.grownBy w' (some bm)) : M1 w0 bm gm cm R C ms w' :=
  ⟨he, h.bl.grown hg h.bl.size (fun k e => by cases e; exact h.lo), h.lo⟩

theorem m1_start {w w1 : World} {bm gm cm : Nat} {L : List (List UInt8)} (hw : Ways w) (hG : Pure.Good L) (hm : MapAt w1 bm gm cm L) (hb1 : Below w.heap.size w w1) (hbm : w.heap.size ≤ bm) :
    M1 w bm gm cm L.length (Pure.wid L) L.flatten w1 := by
  have hgm := (hm.own.lt gm rfl).1
  have hwl : 0 < w.heap.size := World.block_lt_of_cell? w ⟨0, 0, none⟩ (hw 0 _ rfl)
  refine ⟨?_, hb1, hbm⟩
  exact
    { ways := fun j u hj => (hb1.cell (p := ⟨0, j, none⟩) hwl).trans (hw j u hj)
      wb := by omega
      gb := by omega
      hC := hG.lo
      hC2 := hG.hi
      hR := hG.len
      hN := hG.size.symm
      mark := fun u hu => byte_cells hm.own u hu
      c0 := by rw [blk_cell hm.blk]; rfl
      c1 := by rw [blk_cell hm.blk]; rfl
      c2 := by rw [blk_cell hm.blk]; rfl
      st := .inl hm.blk }

theorem m1_next (i : Int) (h : M1 w0 bm gm cm R C ms w) :
    Calls Tryz.prog 49 #[.pointer (some ⟨bm, 0, none⟩), .int .i64 i] w fun e w' => ∃ a c, e = .returned (.slice a (nextZ R C ms i).length c) ∧ (M1 w0 bm gm cm R C ms w' ∧ Lst w' (.slice a (nextZ R C ms i).length c) (nextZ R C ms i)) := by
  refine (next_any i h.em).mono ?_
  rintro e w' ⟨v, w1, rfl, he, hg, _, _, hown, hb⟩
  obtain ⟨a, c, rfl, hc⟩ := lst_of hown
  exact ⟨a, c, rfl, (h.turned he hg).below hb, a, c, rfl, hc⟩

theorem m1_back (i : Int) (h : M1 w0 bm gm cm R C ms w) :
    Calls Tryz.prog 112 #[.pointer (some ⟨bm, 0, none⟩), .int .i64 i] w fun e w' => ∃ a c, e = .returned (.slice a (backZ R C ms i).length c) ∧ (M1 w0 bm gm cm R C ms w' ∧ Lst w' (.slice a (backZ R C ms i).length c) (backZ R C ms i)) := by
  refine (back_any i h.em).mono ?_
  rintro e w' ⟨v, w1, rfl, he, hg, _, _, hown, hb⟩
  obtain ⟨a, c, rfl, hc⟩ := lst_of hown
  exact ⟨a, c, rfl, (h.turned he hg).below hb, a, c, rfl, hc⟩

theorem m1_edges (h : M1 w0 bm gm cm R C ms w) :
    Calls Tryz.prog 37 #[.pointer (some ⟨bm, 0, none⟩)] w fun e w' => e = .returned (.int .i64 (eds R C ms ms.length : Int)) ∧ M1 w0 bm gm cm R C ms w' := by
  refine (edges_any h.em).mono ?_
  rintro e w' ⟨rfl, he, hg⟩
  exact ⟨rfl, h.turned he hg⟩

theorem m1_all (h : M1 w0 bm gm cm R C ms w) (hm : 0 < ms.length) :
    Calls Tryz.prog 36 #[.pointer (some ⟨bm, 0, none⟩)] w fun e w' => ∃ a c, e = .returned (.slice a (frees ms).length c) ∧ (M1 w0 bm gm cm R C ms w' ∧ Lst w' (.slice a (frees ms).length c) (frees ms)) := by
  have hlen := h.em.len
  refine (all_any bm gm cm ms w (by omega) h.em.lt (World.block_lt_of_cell? w ⟨gm, 0, none⟩ (h.em.mark 0 hm)) h.em.c2 (fun j hj => h.em.mark j hj)).mono ?_
  rintro e w' ⟨a, c, rfl, hown, hb⟩
  exact ⟨a, c, rfl, h.below hb, lst_of hown⟩
end

end Go.Proofs.YtekhlaodlagbdaaGreatDoor

/-
  GridBack: plain facts on edges; and one map's calls, a list held meanwhile.
-/
namespace Go.Proofs.YtekhlaodlagbdaaGreatDoor
set_option maxRecDepth 100000
set_option linter.unusedSimpArgs false
open Go.RowKit

theorem ag_ne (k : Nat) : agK k ≠ 46 := by unfold agK; split <;> (try split) <;> (try split) <;> omega
theorem apart_comm (x y : Int) : apartZ x y = apartZ y x := by unfold apartZ; omega

theorem out_facts {R C : Nat} {ms : List UInt8} (hC : 1 ≤ C) (hN : R * C = ms.length) {a b : Nat} (ha : a < ms.length) (hb : b ∈ outs R C ms a) :
    b < ms.length ∧ farZ C ms.length a b = 1 ∧ freeB ms a = true ∧ freeB ms b = true ∧ a ∈ ins R C ms b ∧
      ((((kindB ms a).toNat : Int) == 46) = true → (((kindB ms b).toNat : Int) == 46) = true → a ∈ outs R C ms b) := by
  have hbN : b < ms.length := hN ▸ outs_bd hb
  have he : edgeB C ms a b = true := by rw [edge_iff hC hN ha hbN]; simpa using hb
  have he' := he
  unfold edgeB at he'
  simp only [Bool.and_eq_true, beq_iff_eq] at he'
  obtain ⟨⟨⟨h1, h2⟩, h3⟩, _⟩ := he'
  refine ⟨hbN, h3, h1, h2, ?_, fun k1 k2 => ?_⟩
  · unfold ins
    rw [List.mem_filter]
    exact ⟨List.mem_range.2 ha, by simpa using hb⟩
  · have h : edgeB C ms b a = true := by
      unfold edgeB
      have h3' : farZ C ms.length (b : Int) (a : Int) = 1 := by
        rw [← h3]
        unfold farZ
        rw [if_pos (by omega), if_pos (by omega), apart_comm (((a : Int).toNat / C : Nat) : Int), apart_comm (((a : Int).toNat % C : Nat) : Int)]
      rw [h1, h2, h3', k2]
      simp only [beq_iff_eq] at k1
      rw [k1]
      have := ag_ne (dirK C (b : Int) (a : Int))
      simp
      omega
    rw [edge_iff hC hN hbN ha] at h
    simpa using h

/-- A sum over the first numbers. -/
def sumN (f : Nat → Nat) : Nat → Nat
  | 0 => 0
  | k + 1 => sumN f k + f k
theorem sumN_congr {f g : Nat → Nat} : ∀ k, (∀ u, u < k → f u = g u) → sumN f k = sumN g k
  | 0, _ => rfl
  | k + 1, h => by rw [sumN, sumN, sumN_congr k (fun u hu => h u (by omega)), h k (by omega)]
theorem sumN_add (f g : Nat → Nat) : ∀ k, sumN (fun u => f u + g u) k = sumN f k + sumN g k
  | 0 => rfl
  | k + 1 => by rw [sumN, sumN, sumN, sumN_add f g k]; omega
theorem sumN_zero : ∀ k, sumN (fun _ => 0) k = 0
  | 0 => rfl
  | k + 1 => by rw [sumN, sumN_zero k]
theorem filter_sum (p : Nat → Bool) : ∀ k, ((List.range k).filter p).length = sumN (fun u => if p u then 1 else 0) k
  | 0 => rfl
  | k + 1 => by
    rw [List.range_succ, List.filter_append, List.length_append, filter_sum p k, sumN]
    cases h : p k <;> simp [h]

theorem rise_count {l : List Nat} {N : Nat} (h : l.Pairwise (· < ·)) (hl : ∀ x ∈ l, x < N) : sumN (fun u => if decide (u ∈ l) then 1 else 0) N = l.length := by
  rw [← filter_sum (fun u => decide (u ∈ l)) N]
  congr 1
  refine rise_ext (range_rise _ _) h fun x => ?_
  simp only [List.mem_filter, List.mem_range, decide_eq_true_eq]
  exact ⟨fun h => h.2, fun h => ⟨hl x h, h⟩⟩

theorem both_counts (R C : Nat) (ms : List UInt8) (hC : 1 ≤ C) (hN : R * C = ms.length) : ∀ n, sumN (fun u => ((List.range n).filter (fun i => decide (u ∈ outs R C ms i))).length) ms.length = eds R C ms n
  | 0 => by simp [eds, sumN_zero]
  | n + 1 => by
    rw [eds_sum, ← both_counts R C ms hC hN n, ← rise_count (outs_rise R C ms n hC) (N := ms.length) (fun x hx => hN ▸ outs_bd hx), ← sumN_add]
    refine sumN_congr _ fun u _ => ?_
    rw [List.range_succ, List.filter_append, List.length_append]
    congr 1
    by_cases h : u ∈ outs R C ms n <;> simp [h]

theorem ins_sum (R C : Nat) (ms : List UInt8) (hC : 1 ≤ C) (hN : R * C = ms.length) : sumN (fun u => (ins R C ms u).length) ms.length = eds R C ms ms.length :=
  both_counts R C ms hC hN ms.length

theorem sumN_le (R C : Nat) (ms : List UInt8) : ∀ k, sumN (fun u => (ins R C ms u).length) k ≤ k * ms.length
  | 0 => by simp [sumN]
  | k + 1 => by
    rw [sumN, Nat.add_mul]
    have := sumN_le R C ms k
    have := ins_len R C ms k
    omega

/-- A list that lies beside the map's block. -/
def LstN (bm : Nat) (w : World) (v : Value) (l : List Nat) : Prop := ∃ a c, v = .slice a l.length c ∧ ∀ j, j < l.length → ∃ g, a = some ⟨g, 0, none⟩ ∧ g ≠ bm ∧ w.cell? ⟨g, j, none⟩ = some (.int .i64 ((l.getD j 0 : Nat) : Int))

theorem LstN.grown {bm : Nat} {w w' : World} {v : Value} {l : List Nat} (h : LstN bm w v l) (hg : w.grownBy w' (some bm)) : LstN bm w' v l := by
  obtain ⟨a, c, rfl, hc⟩ := h
  refine ⟨a, c, rfl, fun j hj => ?_⟩
  obtain ⟨g, rfl, hne, hcell⟩ := hc j hj
  exact ⟨g, rfl, hne, hg.cell hcell (fun e => hne (by injection e))⟩

section
variable {w0 w : World} {bm gm cm R C : Nat} {ms : List UInt8}

theorem lstN_of {w1 w' : World} {v : Value} {l : List Nat} (hE : EM bm gm cm R C ms w1) (h : w'.ownsRow w1.heap.size 3 1 v l.length (l.map natV)) : LstN bm w' v l := by
  have hlt := hE.lt
  rcases h.2 with ⟨rfl, h0⟩ | ⟨g, cap, cur, rfl, hg, _⟩
  · exact ⟨none, 0, by rw [h0], fun j hj => by omega⟩
  · exact ⟨_, _, rfl, fun j hj => ⟨g, rfl, by omega, int_cells h j hj⟩⟩

theorem g_next (i : Int) (h : M1 w0 bm gm cm R C ms w) :
    Calls Tryz.prog 49 #[.pointer (some ⟨bm, 0, none⟩), .int .i64 i] w fun e w' => ∃ a c, e = .returned (.slice a (nextZ R C ms i).length c) ∧ (M1 w0 bm gm cm R C ms w' ∧ w.grownBy w' (some bm) ∧ LstN bm w' (.slice a (nextZ R C ms i).length c) (nextZ R C ms i)) := by
  refine (next_any i h.em).mono ?_
  rintro e w' ⟨v, w1, rfl, he, hg, _, _, hown, hb⟩
  have hl := lstN_of he hown
  obtain ⟨a, c, rfl, hc⟩ := hl
  exact ⟨a, c, rfl, (h.turned he hg).below hb, grown_trans hg (grown_of_below hb _), a, c, rfl, hc⟩

theorem g_back (i : Int) (h : M1 w0 bm gm cm R C ms w) :
    Calls Tryz.prog 112 #[.pointer (some ⟨bm, 0, none⟩), .int .i64 i] w fun e w' => ∃ a c, e = .returned (.slice a (backZ R C ms i).length c) ∧ (M1 w0 bm gm cm R C ms w' ∧ w.grownBy w' (some bm) ∧ LstN bm w' (.slice a (backZ R C ms i).length c) (backZ R C ms i)) := by
  refine (back_any i h.em).mono ?_
  rintro e w' ⟨v, w1, rfl, he, hg, _, _, hown, hb⟩
  have hl := lstN_of he hown
  obtain ⟨a, c, rfl, hc⟩ := hl
  exact ⟨a, c, rfl, (h.turned he hg).below hb, grown_trans hg (grown_of_below hb _), a, c, rfl, hc⟩

theorem g_edge (i x : Int) (h : M1 w0 bm gm cm R C ms w) :
    Calls Tryz.prog 35 #[.pointer (some ⟨bm, 0, none⟩), .int .i64 i, .int .i64 x] w fun e w' => e = .returned (.bool ((nextZ R C ms i).any (fun u => (u : Int) == x))) ∧ (M1 w0 bm gm cm R C ms w' ∧ w.grownBy w' (some bm)) := by
  refine (medge_any i x h.em).mono ?_
  rintro e w' ⟨rfl, he, hg⟩
  exact ⟨rfl, h.turned he hg, hg⟩

theorem g_far (i x : Int) (h : M1 w0 bm gm cm R C ms w) (hN0 : 0 < ms.length) :
    Calls Tryz.prog 47 #[.pointer (some ⟨bm, 0, none⟩), .int .i64 i, .int .i64 x] w fun e w' => e = .returned (.int .i64 (farZ C ms.length i x)) ∧ (M1 w0 bm gm cm R C ms w' ∧ w.grownBy w' (some bm)) := by
  refine (far_any i x h.em hN0).mono ?_
  rintro e w' ⟨rfl, n, rfl⟩
  exact ⟨rfl, h.below (bel_drewN (Below.refl _ _) n), ⟨rfl, rfl, rfl, Nat.le_refl _, fun _ _ _ => rfl⟩⟩

theorem g_free (i : Int) (h : M1 w0 bm gm cm R C ms w) :
    Calls Tryz.prog 48 #[.pointer (some ⟨bm, 0, none⟩), .int .i64 i] w fun e w' => e = .returned (.bool (freeB ms i)) ∧ w = w' :=
  free_any bm gm cm ms i w h.em.c2 (fun j hj => h.em.mark j hj)
theorem g_cells (h : M1 w0 bm gm cm R C ms w) :
    Calls Tryz.prog 15 #[.pointer (some ⟨bm, 0, none⟩)] w fun e w' => e = .returned (.int .i64 (ms.length : Int)) ∧ w = w' :=
  cells_any bm _ _ _ w h.em.c2
end
end Go.Proofs.YtekhlaodlagbdaaGreatDoor
