/-
  SegmentKinds: what kinds are; its walk.
-/
import Derived.Test.YtekhlaodlagbdaaGreatDoorSgL
namespace Go.Proofs.YtekhlaodlagbdaaGreatDoor
set_option maxRecDepth 100000
set_option linter.unusedSimpArgs false
open Go Go.RowKit

section
variable {R C : Nat} {ms : List UInt8}
def parB (C x : Nat) : Nat := (x / C + x % C) % 2
theorem par_ne (hC : 1 ≤ C) (hN : R * C = ms.length) {a b : Nat} (h : b ∈ jnF R C ms a) : parB C b ≠ parB C a := by
  have key : ∀ {a b}, b ∈ outs R C ms a → parB C b ≠ parB C a := fun {a b} h => by
    have ha := out_from h
    obtain ⟨hb, h2, _⟩ := out_facts hC hN ha h
    unfold farZ apartZ at h2
    rw [if_pos (by omega)] at h2
    simp only [Int.toNat_natCast] at h2
    unfold parB
    generalize a / C = a1 at *
    generalize a % C = a2 at *
    generalize b / C = b1 at *
    generalize b % C = b2 at *
    omega
  rcases (jnF_mem.1 h).2 with h1 | h1
  · exact key h1
  · exact (key h1).symm
/-- What a cell's segment is, by its kind. -/
theorem kind_ok (hC : 1 ≤ C) (hN : R * C = ms.length) {s x : Nat} (hs : s < (planF R C ms).cells.length) (hx : x ∈ (planF R C ms).cells.getD s []) :
    ((planF R C ms).kinds.getD s 0 = 1 ∧ ((planF R C ms).cells.getD s []).length = 1 ∧ (jnF R C ms x).length ≠ 2) ∨
    ((planF R C ms).kinds.getD s 0 = 2 ∧ (jnF R C ms x).length = 2 ∧ ((jnF R C ms x).filter (fun b => decide ((planF R C ms).of.getD b 0 = (s : Int)))).length ≤ 2) ∨
    ((planF R C ms).kinds.getD s 0 = 3 ∧ (jnF R C ms x).length = 2 ∧ ((jnF R C ms x).filter (fun b => decide ((planF R C ms).of.getD b 0 = (s : Int)))).length = 2 ∧ 4 ≤ ((planF R C ms).cells.getD s []).length) := by
  have hJ := jnF_jn (ms := ms) hC hN
  obtain ⟨hI, _⟩ := plan_ok (ms := ms) hC hN
  obtain ⟨a, ha, _, e, _⟩ := hI.ord s hs
  by_cases h2 : (jnF R C ms a).length = 2
  · rcases Sg.ord_two hJ ha h2 with ⟨q, n, e', hc, _⟩ | ⟨q, n, e', hr, _⟩
    · rw [e'] at e
      obtain ⟨e1, e2⟩ := Prod.mk.inj e
      rw [← e1] at hx
      obtain ⟨i, hi, rfl⟩ := Sg.mem_map_range.1 hx
      refine .inr (.inl ⟨e2.symm, hc.two i hi, ?_⟩)
      have := List.length_filter_le (fun b => decide ((planF R C ms).of.getD b 0 = (s : Int))) (jnF R C ms (q i))
      rw [hc.two i hi] at this
      exact this
    · rw [e'] at e
      obtain ⟨e1, e2⟩ := Prod.mk.inj e
      have hx' := hx
      rw [← e1] at hx
      obtain ⟨i, hi, rfl⟩ := Sg.mem_map_range.1 hx
      refine .inr (.inr ⟨e2.symm, hr.two i hi, ?_, ?_⟩)
      · rw [List.filter_eq_self.2]
        · exact hr.two i hi
        · intro y hy
          rw [decide_eq_true_eq]
          refine ((hI.of y (hJ.bd hy)).2 s).2 ⟨hs, ?_⟩
          rw [← e1]
          rcases hr.nb i y hi hy with ⟨h, rfl⟩ | ⟨h, rfl⟩ | ⟨h, rfl⟩ | ⟨h, rfl⟩
          · exact Sg.mem_map_range.2 ⟨i - 1, by omega, rfl⟩
          · exact Sg.mem_map_range.2 ⟨i + 1, h, rfl⟩
          · exact Sg.mem_map_range.2 ⟨n - 1, by omega, rfl⟩
          · exact Sg.mem_map_range.2 ⟨0, by omega, rfl⟩
      · rw [← e1, List.length_map, List.length_range]
        have hp := hr.pos
        rcases Nat.lt_or_ge 3 n with h | h
        · exact h
        · obtain rfl : n = 3 := by omega
          have p1 := par_ne hC hN (hr.adj 0 (by omega))
          have p2 := par_ne hC hN (hr.adj 1 (by omega))
          have p3 := par_ne hC hN hr.wrap
          simp only [Nat.zero_add, Nat.reduceAdd, Nat.reduceSub] at p1 p2 p3
          unfold parB at p1 p2 p3
          omega
  · rw [Sg.ord_one h2] at e
    obtain ⟨e1, e2⟩ := Prod.mk.inj e
    rw [← e1] at hx
    obtain rfl : x = a := by simpa using hx
    exact .inl ⟨e2.symm, by rw [← e1]; rfl, h2⟩

/-- How many of some cells are joined with one; how many of these are of a segment. -/
def manyK (R C : Nat) (ms : List UInt8) (x : Nat) (l : List Nat) : Nat := (l.filter (fun b => decide (b ∈ jnF R C ms x))).length
def ownK (R C : Nat) (ms : List UInt8) (x s : Nat) (l : List Nat) : Nat := (l.filter (fun b => decide (b ∈ jnF R C ms x) && decide ((planF R C ms).of.getD b 0 = (s : Int)))).length
theorem jn_frees (hC : 1 ≤ C) (hN : R * C = ms.length) (x : Nat) : (frees ms).filter (fun b => decide (b ∈ jnF R C ms x)) = jnF R C ms x := by
  refine rise_ext (List.Pairwise.filter _ (by unfold frees freeK; exact List.Pairwise.filter _ (List.pairwise_lt_range (n := ms.length)))) (jnF_rise R C ms x) fun b => ?_
  rw [List.mem_filter, decide_eq_true_eq]
  refine ⟨fun h => h.2, fun h => ⟨?_, h⟩⟩
  have hf : freeB ms (b : Int) = true := by
    rcases (jnF_mem.1 h).2 with h1 | h1
    · exact (out_facts hC hN (out_from h1) h1).2.2.2.1
    · exact (out_facts hC hN (out_from h1) h1).2.2.1
  unfold frees freeK
  rw [List.mem_filter, List.mem_range]
  obtain ⟨_, h2⟩ := free_range hf
  refine ⟨by omega, ?_⟩
  unfold freeB at hf
  have := (Bool.and_eq_true_iff.1 hf).2
  simpa using this
theorem many_all (hC : 1 ≤ C) (hN : R * C = ms.length) (x : Nat) : manyK R C ms x (frees ms) = (jnF R C ms x).length := by
  unfold manyK
  rw [jn_frees hC hN]
theorem own_all (hC : 1 ≤ C) (hN : R * C = ms.length) (x s : Nat) : ownK R C ms x s (frees ms) = ((jnF R C ms x).filter (fun b => decide ((planF R C ms).of.getD b 0 = (s : Int)))).length := by
  unfold ownK
  rw [← jn_frees hC hN x, List.filter_filter]
  congr 1
  refine List.filter_congr fun b _ => ?_
  rw [jn_frees hC hN x, Bool.and_comm]
theorem jn_edges {x b : Nat} (hb : b < ms.length) (hx : x < ms.length) : decide (b ∈ jnF R C ms x) = ((nextZ R C ms (x : Int)).any (fun u => (u : Int) == (b : Int)) || (nextZ R C ms (b : Int)).any (fun u => (u : Int) == (x : Int))) := by
  have h1 : ∀ a c : Nat, a < ms.length → (nextZ R C ms (a : Int)).any (fun u => (u : Int) == (c : Int)) = decide (c ∈ outs R C ms a) := fun a c ha => by
    unfold nextZ
    rw [if_pos (by omega), Int.toNat_natCast, Bool.eq_iff_iff, List.any_eq_true, decide_eq_true_eq]
    constructor
    · rintro ⟨u, h2, h3⟩
      have h4 := eq_of_beq h3
      have : u = c := by omega
      exact this ▸ h2
    · intro h2
      exact ⟨c, h2, by simp⟩
  rw [h1 x b hx, h1 b x hb, Bool.eq_iff_iff, Bool.or_eq_true, decide_eq_true_eq, decide_eq_true_eq, decide_eq_true_eq, jnF_mem]
  exact ⟨fun h => h.2, fun h => ⟨hb, h⟩⟩
end

/-- A list in memory, by its numbers, with room for its address. -/
theorem lst_slice {w : World} {v : Value} {l : List Nat} (h : Lst w v l) : ∃ a c, v = .slice a l.length c := by
  obtain ⟨a, c, rfl, _⟩ := h
  exact ⟨a, c, rfl⟩
theorem lst_at {w : World} {a : Option Addr} {n c : Nat} {l : List Nat} (h : Lst w (.slice a n c) l) {j : Nat} (hj : j < l.length) : ∃ g, a = some ⟨g, 0, none⟩ ∧ w.cell? ⟨g, j, none⟩ = some (.int .i64 ((l.getD j 0 : Nat) : Int)) := by
  obtain ⟨a', c', e, hc⟩ := h
  cases e
  exact hc j hj

theorem ways_below {w w1 : World} (hw : Ways w) (hb : Below w.heap.size w w1) : Ways w1 := fun j u hj => by
  have := hw j u hj
  exact (hb.cell (World.block_lt_of_cell? w _ this)).trans this
/-- The plan of a text that is a map's, asked behind the example. -/
theorem of_good2 {s : ByteArray} {L : List (List UInt8)} (hv : Pure.verdict s.data.toList = .good L) {w w1 : World} (hw : Ways w) (hb : Below w.heap.size w w1) (hs : s.size ≤ maxLen) :
    Calls Tryz.prog 32 #[.string s] w1 fun e w' => ∃ p bm gm cm, e = .returned (.pointer (some ⟨p, 0, none⟩)) ∧ M2 w bm gm cm L.length (Pure.wid L) L.flatten p (planF L.length (Pure.wid L) L.flatten) w' := by
  refine (of_good hv w1 (ways_below hw hb) hs).mono ?_
  rintro e w' ⟨p, bm, gm, cm, rfl, h1⟩
  exact ⟨p, bm, gm, cm, rfl, h1.pl, hb.trans (h1.bl.mono hb.size)⟩
theorem of_bad2 {s : ByteArray} {l c : Nat} (hv : Pure.verdict s.data.toList = .bad l c) {w w1 : World} (hb : Below w.heap.size w w1) (hs : s.size ≤ maxLen) :
    Calls Tryz.prog 32 #[.string s] w1 fun e w' => e = .returned (.pointer none) ∧ Below w.heap.size w w' := by
  refine (of_bad hv w1 hs).mono ?_
  rintro e w' ⟨rfl, h1⟩
  exact ⟨rfl, hb.trans (h1.mono hb.size)⟩

/-- A map's size. -/
structure SgOk (R C : Nat) (ms : List UInt8) : Prop where
  hC : 1 ≤ C
  hN : R * C = ms.length
  pos : 0 < ms.length
  small : ms.length ≤ 1024
theorem sgok_of {L : List (List UInt8)} (hG : Pure.Good L) : SgOk L.length (Pure.wid L) L.flatten := by
  refine ⟨hG.lo, hG.size.symm, ?_, hG.small⟩
  rw [hG.size]
  exact Nat.mul_pos (List.length_pos_iff.2 hG.ne) hG.lo
section
variable {w W : World} {bm gm cm R C p : Nat} {ms : List UInt8}
theorem m2_map (h : M2 w bm gm cm R C ms p (planF R C ms) W) : Calls Tryz.prog 33 #[.pointer (some ⟨p, 0, none⟩)] W fun e w' => e = .returned (.pointer (some ⟨bm, 0, none⟩)) ∧ W = w' := pmap_any h.pl
theorem m2_cells (h : M2 w bm gm cm R C ms p (planF R C ms) W) {N : Nat} (hN : N = ms.length) : Calls Tryz.prog 15 #[.pointer (some ⟨bm, 0, none⟩)] W fun e w' => e = .returned (.int .i64 (N : Int)) ∧ W = w' := by rw [hN]; exact cells_any bm _ _ _ W h.pl.em.c2
theorem m2_len (h : M2 w bm gm cm R C ms p (planF R C ms) W) {n : Nat} (hn : n = (planF R C ms).cells.length) : Calls Tryz.prog 18 #[.pointer (some ⟨p, 0, none⟩)] W fun e w' => e = .returned (.int .i64 (n : Int)) ∧ W = w' := plen_any h.pl hn.symm
theorem seg_len (ho : SgOk R C ms) {i : Nat} (hi : i < (planF R C ms).cells.length) : ((planF R C ms).cells.getD i []).length ≤ 1024 := by
  obtain ⟨hI, _⟩ := plan_ok (ms := ms) ho.hC ho.hN
  obtain ⟨a, ha, _, e, _⟩ := hI.ord i hi
  have := (Sg.ord_list (jnF_jn (ms := ms) ho.hC ho.hN) ha).2.2.2.2
  rw [e] at this
  have h2 := ho.small
  simp only at this
  omega
theorem m2_cls (ho : SgOk R C ms) (h : M2 w bm gm cm R C ms p (planF R C ms) W) {i : Nat} (hi : i < (planF R C ms).cells.length) : Calls Tryz.prog 19 #[.pointer (some ⟨p, 0, none⟩), .int .i64 (i : Int)] W fun e w' => ∃ a c, e = .returned (.slice a ((planF R C ms).cells.getD i []).length c) ∧ M2 w bm gm cm R C ms p (planF R C ms) w' ∧ Lst w' (.slice a ((planF R C ms).cells.getD i []).length c) ((planF R C ms).cells.getD i []) ∧ Below W.heap.size W w' := by
  have h1 : (planF R C ms).cells.getD i [] = cellsZ (planF R C ms) (i : Int) := by
    unfold cellsZ hasZ
    simp [hi]
  have h2 := seg_len ho hi
  have := pcells_any h.pl (i : Int) (by rw [← h1]; omega)
  rw [← h1] at this
  refine this.mono ?_
  rintro e w' ⟨v, rfl, ho', hb⟩
  obtain ⟨a, c, rfl⟩ := row_slice ho'
  exact ⟨a, c, rfl, h.below hb, lst_row ho', hb⟩
theorem m2_kind (ho : SgOk R C ms) (h : M2 w bm gm cm R C ms p (planF R C ms) W) {i : Nat} (hi : i < (planF R C ms).cells.length) : Calls Tryz.prog 21 #[.pointer (some ⟨p, 0, none⟩), .int .i64 (i : Int)] W fun e w' => e = .returned (.int .i64 (((planF R C ms).kinds.getD i 0 : Nat) : Int)) ∧ W = w' :=
  pkind_any h.pl (i : Int) (plan_ok (ms := ms) ho.hC ho.hN).1.kl (by unfold kindZ hasZ; simp [hi])
theorem m2_seg (h : M2 w bm gm cm R C ms p (planF R C ms) W) {b : Nat} (hb : b < ms.length) : Calls Tryz.prog 23 #[.pointer (some ⟨p, 0, none⟩), .int .i64 (b : Int)] W fun e w' => e = .returned (.int .i64 ((planF R C ms).of.getD b 0)) ∧ W = w' :=
  pseg_any h.pl (b : Int) (by unfold segZ; rw [if_pos (by omega), Int.toNat_natCast])
theorem m2_all (ho : SgOk R C ms) (h : M2 w bm gm cm R C ms p (planF R C ms) W) {F : Nat} (hF : F = (frees ms).length) : Calls Tryz.prog 36 #[.pointer (some ⟨bm, 0, none⟩)] W fun e w' => ∃ a c, e = .returned (.slice a F c) ∧ M2 w bm gm cm R C ms p (planF R C ms) w' ∧ Lst w' (.slice a F c) (frees ms) ∧ Below W.heap.size W w' := by
  have hE := h.pl.em
  have hl := ho.small
  refine (all_any bm gm cm ms W (by omega) hE.lt (World.block_lt_of_cell? W ⟨gm, 0, none⟩ (hE.mark 0 ho.pos)) hE.c2 (fun j hj => hE.mark j hj)).mono ?_
  rintro e w' ⟨a, c, rfl, ho, hb⟩
  exact ⟨a, c, by rw [hF], h.below hb, by rw [hF]; exact lst_row ho, hb⟩
theorem m2_edge (h : M2 w bm gm cm R C ms p (planF R C ms) W) (a b : Int) {v : Bool} (hv : (nextZ R C ms a).any (fun u => (u : Int) == b) = v) : Calls Tryz.prog 35 #[.pointer (some ⟨bm, 0, none⟩), .int .i64 a, .int .i64 b] W fun e w' => e = .returned (.bool v) ∧ W = w' := by rw [← hv]; exact edge_d a b h.pl.em h.pl.done
end

end Go.Proofs.YtekhlaodlagbdaaGreatDoor
