/-
  A map of distances, in memory; lists of marks.
-/
import Derived.Test.YtkfijjjnidiejaaDoorQEm
import Derived.Test.YtkfijjjnidiejaaDoorQPure3
import Derived.Maps.Views
import Derived.Maps.OwnOps
import Derived.Maps.OwnSet
namespace Go.Proofs.YtkfijjjnidiejaaDoor
set_option maxRecDepth 100000
open Go Go.RowKit
open Go.Maps (Keyed IsMap Tidy)

theorem dzero (w : World) : (zeroValue 3).run Tryd.prog w = .ok (.int .i64 0) w := by kernel_rfl
theorem dkeyed : Keyed Tryd.prog 3 := Maps.int_keyed Tryd.underlying3
theorem dwf {h : Nat} (hh : h ≤ 100000) : (Lit.int .i64 (h : Int)).wf = true := WalkArith.wf_i64 ⟨by omega, by omega⟩
theorem dkey {h : Nat} (hh : h ≤ 100000) : keyOf Tryd.prog 3 (.int .i64 (h : Int)) = some (.int .i64 (h : Int)) := Maps.keyOf_int_mk Tryd.underlying3 (dwf hh)

open Classical in
/-- Is it met? -/
noncomputable def metB (M : List (Nat × Nat)) (c : Nat) : Bool := decide (Rq.met M c)
theorem metB_true {M : List (Nat × Nat)} {c : Nat} : metB M c = true ↔ Rq.met M c := by simp [metB]
theorem metB_false {M : List (Nat × Nat)} {c : Nat} : metB M c = false ↔ ¬ Rq.met M c := by simp [metB]

def MapD (w : World) (m : Nat) (M : List (Nat × Nat)) (D : DataW Unit) : Prop :=
  w.ownsMap Tryd.prog 3 (plainElem Tryd.prog 3) m M.length D ∧ Maps.size D = M.length ∧ ∀ c : Nat, Maps.has D (.int .i64 (c : Int)) = metB M c ∧ ∀ d : Nat, (c, d) ∈ M → D.atKey (.int .i64 (c : Int)) (.lit (.int .i64 0)) = .lit (.int .i64 (d : Int))
def MapM (w : World) (m : Nat) (M : List (Nat × Nat)) : Prop := ∃ D : DataW Unit, MapD w m M D
theorem MapM.lt {w : World} {m : Nat} {M : List (Nat × Nat)} (h : MapM w m M) : m < w.heap.size := by
  obtain ⟨D, ho, _⟩ := h
  exact ho.lt
theorem MapM.kept {X : Nat → Prop} {w w' : World} {m : Nat} {M : List (Nat × Nat)} (h : MapM w m M) (hk : Kept X w w') (hm : ¬ X m) : MapM w' m M := by
  have hlt := h.lt
  obtain ⟨D, ⟨es, clock, hb, F, hs, hD⟩, h1, h2⟩ := h
  exact ⟨D, ⟨es, clock, (hk.block m hlt hm).trans hb, F, hs, hD⟩, h1, h2⟩
theorem MapM.made (w : World) : MapM (w.alloc (.map #[] 0)) w.heap.size [] :=
  ⟨.map [], World.ownsMap_made w _ _ _, rfl, fun c => ⟨by simp [Maps.has, metB, Rq.met], fun d hm => by simp at hm⟩⟩
theorem MapM.put {w' : World} {m c d : Nat} {M : List (Nat × Nat)} {D : DataW Unit} {w : World} (h : MapD w m M D) (hc : ¬ Rq.met M c)
    (ho' : w'.ownsMap Tryd.prog 3 (plainElem Tryd.prog 3) m (M.length + 1) (D.put (.int .i64 (c : Int)) (.lit (.int .i64 (d : Int))))) : MapM w' m (M ++ [(c, d)]) := by
  obtain ⟨ho, hs, hh⟩ := h
  have ht : Tidy D := ho.tidy dkeyed
  have hkl : WideAt.IsKeyLit (.int .i64 (c : Int)) := trivial
  have hmet : ∀ x, Rq.met (M ++ [(c, d)]) x ↔ Rq.met M x ∨ x = c := by
    intro x
    unfold Rq.met
    simp only [List.mem_append, List.mem_singleton, Prod.mk.injEq]
    constructor
    · rintro ⟨y, h1 | ⟨h1, _⟩⟩
      · exact .inl ⟨y, h1⟩
      · exact .inr h1
    · rintro (⟨y, h1⟩ | h1)
      · exact ⟨y, .inl h1⟩
      · exact ⟨d, .inr ⟨h1, rfl⟩⟩
  refine ⟨_, by simpa using ho', ?_, fun k => ?_⟩
  · rw [Maps.size_put ht, (hh c).1, metB_false.2 hc]
    simp [hs]
  · by_cases e : k = c
    · subst e
      refine ⟨by rw [Maps.has_put_same ht.isMap hkl]; exact (metB_true.2 ((hmet k).2 (.inr rfl))).symm, fun y hy => ?_⟩
      rw [Maps.atKey_put_same ht.isMap hkl]
      rcases List.mem_append.1 hy with h1 | h1
      · exact absurd ⟨y, h1⟩ hc
      · simp at h1; rw [h1]
    · have hne : (Lit.int .i64 (k : Int)) ≠ (Lit.int .i64 (c : Int)) := by
        intro h2
        injection h2 with _ h2
        omega
      refine ⟨?_, fun y hy => ?_⟩
      · rw [Maps.has_put_other hne, (hh k).1]
        unfold metB
        rw [decide_eq_decide, hmet k]
        exact ⟨.inl, fun h => h.resolve_right e⟩
      · rw [Maps.atKey_put_other hne]
        rcases List.mem_append.1 hy with h1 | h1
        · exact (hh k).2 y h1
        · simp at h1; exact absurd h1.1 e

/-- What a look-up tells. -/
theorem MapD.at_ {w : World} {m c d : Nat} {M : List (Nat × Nat)} {D : DataW Unit} (h : MapD w m M D) (hm : (c, d) ∈ M) {z : Int} (hz : D.atKey (.int .i64 (c : Int)) (.lit (.int .i64 0)) = .lit (.int .i64 z)) : z = (d : Int) := by
  rw [(h.2.2 c).2 d hm] at hz
  injection hz with hz
  injection hz with _ hz
  exact hz.symm

/-! Marks -/
def bz (l : List Bool) : Array Value := (l.map Value.bool).toArray
theorem bz_made (n : Nat) : madeCells #[.bool false] n = bz (List.replicate n false) := by
  apply Array.toList_inj.1
  rw [toList_madeCells_one]
  simp [bz]
theorem bz_set (l : List Bool) (i : Nat) : (bz l).setIfInBounds i (.bool true) = bz (l.set i true) := by
  unfold bz
  apply Array.toList_inj.1
  simp
theorem bz_get {l : List Bool} {i : Nat} (h : i < l.length) : (bz l)[i]? = some (.bool (l.getD i false)) := by simp [bz, List.getD, h]

/-- The numbers listed, as marks. -/
def banL (N : Nat) (l : List Int) : List Bool := (List.range N).map fun i : Nat => decide (((i : Nat) : Int) ∈ l)
theorem banL_len (N : Nat) (l : List Int) : (banL N l).length = N := by simp [banL]
theorem banL_at {N : Nat} {l : List Int} {i : Nat} (h : i < N) : (banL N l).getD i false = decide ((i : Int) ∈ l) := by simp [banL, List.getD, h]
theorem banL_nil (N : Nat) : banL N [] = List.replicate N false := by
  apply List.ext_getElem (by simp [banL])
  intro j h1 h2
  simp [banL]
theorem banL_in {N : Nat} {l : List Int} {i : Nat} : banL N (l ++ [(i : Int)]) = (banL N l).set i true := by
  apply List.ext_getElem (by simp [banL])
  intro j h1 h2
  rw [List.getElem_set]
  simp only [banL, List.getElem_map, List.getElem_range, List.mem_append, List.mem_singleton]
  by_cases e : i = j
  · subst e; simp
  · rw [if_neg e]
    have : ¬ ((j : Int) = (i : Int)) := by omega
    simp [this]
theorem banL_out {N : Nat} {l : List Int} {x : Int} (h : ¬ (0 ≤ x ∧ x < (N : Int))) : banL N (l ++ [x]) = banL N l := by
  unfold banL
  apply List.map_congr_left
  intro j hj
  have hj' := List.mem_range.1 hj
  have : ¬ ((j : Int) = x) := by omega
  simp [this]

/-- A list of numbers that came in. -/
def IntsAt (w : World) (A : Option Addr) (l : List Int) : Prop := ∀ j, j < l.length → ∃ a, A = some a ∧ a.block < w.heap.size ∧ w.cell? (a.add j) = some (.int .i64 (l.getD j 0))
theorem IntsAt.below {w w' : World} {A : Option Addr} {l : List Int} (h : IntsAt w A l) {B : Nat} (hb : Below B w w') (hB : w.heap.size ≤ B) : IntsAt w' A l := by
  intro j hj
  obtain ⟨a, e, h1, h2⟩ := h j hj
  refine ⟨a, e, Nat.lt_of_lt_of_le h1 hb.size, ?_⟩
  have hbk : (a.add j).block = a.block := by unfold Addr.add; split <;> rfl
  exact (World.cell?_of_block (hb.block _ (by rw [hbk]; omega))).trans h2

theorem Tryd.infoBool : (Tryd.prog.info? 4).map (fun i => (i.zero, i.size, i.bytes)) = some (some (.bool false), 1, 1) := by kernel_rfl
theorem makeBools_run (N : Nat) (hN : N ≤ 100000) (w : World) : (Instr.makeSlice 66 (.int .i64 (N : Int)) (.int .i64 (N : Int))).run Tryd.prog w = .ok (.slice (some ⟨w.heap.size, 0, none⟩) N N) (w.alloc (.cells (madeCells #[.bool false] N) 4)) := by
  obtain ⟨i0, hi, hz0, hz1, hz2⟩ := info_parts Tryd.infoBool
  have := run_make (P := Tryd.prog) w 66 4 i0 (.bool false) Tryd.underlying66 hi hz0 .i64 .i64 (N : Int) (N : Int) (by omega) (Int.le_refl _) (by rw [hz2]; omega) (by omega)
  simpa [hz1, Value.cells] using this

def Marked (w : World) (N : Nat) (l : List Int) (e : Ending) (w' : World) : Prop :=
  ∃ g, e = .returned (.slice (some ⟨g, 0, none⟩) N N) ∧ w'.heap[g]? = some (.cells (bz (banL N l)) 4 (0, 0)) ∧ w.heap.size ≤ g ∧ Below w.heap.size w w'

theorem blk_upd {w : World} {g : Nat} {cs : Array Value} {t : TypeId} (h : w.heap[g]? = some (.cells cs t (0, 0))) (j : Nat) (v : Value) : (w.setCell ⟨g, j, none⟩ v).heap[g]? = some (.cells (cs.setIfInBounds j v) t (0, 0)) := blk_set h j v

set_option maxHeartbeats 1000000 in
theorem marked_any {w : World} {bm gm cm R C : Nat} {ms : List UInt8} {A : Option Addr} {l : List Int} {cap : Nat} (h : EM bm gm cm R C ms w) (hI : IntsAt w A l) (hl : l.length ≤ maxLen) :
    Calls Tryd.prog 43 #[.pointer (some ⟨bm, 0, none⟩), .slice A l.length cap] w (Marked w ms.length l) := by
  have hlen := h.len
  have hmk := makeBools_run ms.length (by omega)
  have HC := Lib.hid (cells_any bm _ _ _ w h.c2)
  have HI := Lib.hid hI
  have HB0 : Hid (∃ g, g = w.heap.size ∧ (w.alloc (.cells (madeCells #[.bool false] ms.length) 4)).heap[g]? = some (.cells (bz (banL ms.length [])) 4 (0, 0)) ∧ Below w.heap.size w (w.alloc (.cells (madeCells #[.bool false] ms.length) 4))) := by
    refine ⟨_, rfl, ?_, (Below.refl _ w).alloc (Nat.le_refl _) _⟩
    rw [banL_nil, ← bz_made]
    exact heap_alloc_new w _
  unfold maxLen at hl
  clear h hI
  generalize ms.length = N at *
  generalize hm : l.length = m at *
  have HM := Lib.hid hm
  clear hm
  go_enter Tryd.func43, Tryd.ntmps43
  go_wp2_with (with_reducible refine HC.out.mono ?_; rintro e w' ⟨rfl, rfl⟩)
  obtain ⟨g, hg, hb0, hbw⟩ := HB0.out
  rw [← hg]
  have HS : Hid ((w.alloc (.cells (madeCells #[.bool false] N) 4)).heap[g]? = some (.cells (bz (banL N (l.take 0))) 4 (0, 0)) ∧ Below w.heap.size w (w.alloc (.cells (madeCells #[.bool false] N) 4))) := ⟨by rw [List.take_zero]; exact hb0, hbw⟩
  have HG : Hid (w.heap.size ≤ g) := by show _ ≤ _; omega
  clear hmk hg hb0 hbw HB0
  generalize w.alloc (.cells (madeCells #[.bool false] N) 4) = w0 at *
  go_loopw [13] (fun u wr => ∃ k : Nat, k ≤ m ∧ u = .int .i64 (k : Int) ∧ wr.heap[g]? = some (.cells (bz (banL N (l.take k))) 4 (0, 0)) ∧ Below w.heap.size w wr) (fun u _ => m - (intOf u).toNat)
  case atStart => exact ⟨0, Nat.zero_le _, rfl, HS.out.1, HS.out.2⟩
  case round =>
    obtain ⟨k, hk, rfl, hb, hw⟩ := hrel
    clear HS
    by_cases hlt : k < m
    · have hkl : k < l.length := by rw [HM.out]; exact hlt
      obtain ⟨a, rfl, ha, fa⟩ := (HI.out.below hw (Nat.le_refl _)) k hkl
      have htk : l.take (k + 1) = l.take k ++ [l.getD k 0] := by
        rw [List.take_succ_eq_append_getElem hkl]
        simp [List.getD, hkl]
      generalize l.getD k 0 = x at *
      have HT := Lib.hid htk
      have HBk := Lib.hid hb
      have HW := Lib.hid hw
      have k0 : (0 : Int) ≤ (k : Int) := by omega
      have k1 : (k : Int) < (m : Int) := by omega
      clear htk hw
      by_cases h0 : 0 ≤ x
      · have d0 : decide (0 ≤ x) = true := decide_eq_true h0
        by_cases h1 : x < (N : Int)
        · have d1 : decide (x < (N : Int)) = true := decide_eq_true h1
          obtain ⟨y, rfl⟩ := Int.eq_ofNat_of_zero_le h0
          have hy : y < N := by omega
          have d2 : decide (y < N) = true := decide_eq_true hy
          have fc : wr.cell? ⟨g, y, none⟩ = some (.bool ((banL N (l.take k)).getD y false)) := by rw [blk_cell hb, bz_get (by rw [banL_len]; exact hy)]
          have fz := blk_free hb y
          have HQ : Hid ((wr.setCell ⟨g, y, none⟩ (.bool true)).heap[g]? = some (.cells (bz (banL N (l.take (k + 1)))) 4 (0, 0)) ∧ Below w.heap.size w (wr.setCell ⟨g, y, none⟩ (.bool true))) := by
            refine ⟨?_, HW.out.setCell (p := ⟨g, y, none⟩) HG.out _⟩
            rw [blk_upd hb, bz_set, HT.out, banL_in]
          generalize (banL N (l.take k)).getD y false = v at *
          clear hb
          go_wp2
          go_roundw
          case rel => exact ⟨k + 1, by omega, by go_num, HQ.out.1, HQ.out.2⟩
          case measure => simp [intOf]; omega
        · have d1 : decide (x < (N : Int)) = false := decide_eq_false h1
          have HQ : Hid (wr.heap[g]? = some (.cells (bz (banL N (l.take (k + 1)))) 4 (0, 0))) := by
            show _ = _
            rw [HBk.out, HT.out, banL_out (fun h => h1 h.2)]
          clear hb
          go_wp2
          go_roundw
          case rel => exact ⟨k + 1, by omega, by go_num, HQ.out, HW.out⟩
          case measure => simp [intOf]; omega
      · have d0 : decide (0 ≤ x) = false := decide_eq_false h0
        have HQ : Hid (wr.heap[g]? = some (.cells (bz (banL N (l.take (k + 1)))) 4 (0, 0))) := by
          show _ = _
          rw [HBk.out, HT.out, banL_out (fun h => h0 h.1)]
        clear hb
        go_wp2
        go_roundw
        case rel => exact ⟨k + 1, by omega, by go_num, HQ.out, HW.out⟩
        case measure => simp [intOf]; omega
    · obtain rfl : k = m := by omega
      have HQ : Hid (Marked w N l (.returned (.slice (some ⟨g, 0, none⟩) N N)) wr) := by
        refine ⟨g, rfl, ?_, HG.out, hw⟩
        rw [List.take_of_length_le (by rw [HM.out]; exact Nat.le_refl _)] at hb
        exact hb
      clear hb hw
      go_wp2
      go_ret
      exact HQ.out

/-! A row as numbers. -/
def intsQ (l : List Nat) : List Int := l.map (fun n : Nat => (n : Int))
theorem intsQ_length (l : List Nat) : (intsQ l).length = l.length := by simp [intsQ]
theorem natV_get {l : List Nat} {j : Nat} (h : j < l.length) : (l.map natV)[j]? = some (natV (l.getD j 0)) := by simp [List.getD, h]
theorem row_ints {w : World} {base : Nat} {v : Value} {l : List Nat} (h : w.ownsRow base 3 1 v l.length (l.map natV)) : ∃ A cp, v = .slice A l.length cp ∧ IntsAt w A (intsQ l) ∧ ∀ a, A = some a → v.ownBlock = some a.block := by
  rcases h.2 with ⟨rfl, h0⟩ | ⟨g, cap, cur, rfl, hbase, hg, h1, h2, h3, h4⟩
  · exact ⟨none, 0, by rw [h0], fun j hj => by rw [intsQ_length] at hj; omega, fun a e => by cases e⟩
  · have HO : w.ownsRow base 3 1 (.slice (some ⟨g, 0, none⟩) l.length cap) l.length (l.map natV) := h
    refine ⟨_, cap, rfl, fun j hj => ⟨_, rfl, blk_lt hg, ?_⟩, fun a e => by cases e; rfl⟩
    rw [intsQ_length] at hj
    have : Addr.add ⟨g, 0, none⟩ j = ⟨g, j, none⟩ := by simp [Addr.add]; omega
    rw [this, HO.cellAt j (by omega), natV_get hj]
    simp [natV, intsQ, List.getD, hj]
end Go.Proofs.YtkfijjjnidiejaaDoor
