/- Joined texts: Sl, EM, Meth. -/
import Derived.Test.YtekhlaodlagbdaaGreatDoorW4
import Derived.Test.YtekhlaodlagbdaaGreatDoorLoop
import Derived.Test.YtekhlaodlagbdaaGreatDoorOnce
import Derived.Test.YtekhlaodlagbdaaGreatDoorW6
import Derived.Lib.SliceRun

/-
  slices.Clone, slices.Index, slices.Contains at lists of ints.
-/
namespace Go.Proofs.YtekhlaodlagbdaaGreatDoor
set_option maxRecDepth 100000
open Go.RowKit

set_option maxHeartbeats 800000 in
theorem clone_any {w : World} {B n : Nat} {v : Value} {xs : List Value} (h : w.ownsRow B 3 1 v n xs) (hn : n ≤ 100000) (h1 : ∀ u ∈ xs, u.oneCell' = true) :
    Calls Tryz.prog 61 #[v] w fun e w' => ∃ v', e = .returned v' ∧ w'.ownsRow w.heap.size 3 1 v' n xs ∧ Below w.heap.size w w' := by
  obtain ⟨i0, hi, hz0, hz1, hz2⟩ := info_parts Tryz.infoInt
  have q22 : ∀ (w : World) (a : Option Addr) (n c n' c' : Nat), (binOp .eql 36 (.slice a n c) (.slice none n' c')).run Tryz.prog w = .ok (.bool a.isNone) w := fun w a n c n' c' => Lib.run_eql_slice_nil w _ _ a n c n' c' Tryz.underlying36
  have hl := h.1
  rcases h.2 with ⟨rfl, rfl⟩ | ⟨g, cap, cur, rfl, _⟩
  · obtain rfl : xs = [] := by simpa using hl
    go_enter Tryz.func61, Tryz.ntmps61
    go_wp2
    go_ret
    exact ⟨_, rfl, World.ownsRow_nil _ _ _ _, Below.refl _ _⟩
  · have A : Hid (∀ j u, xs[j]? = some u → w.cell? ((⟨g, 0, none⟩ : Addr).add j) = some u) := h.cells rfl
    clear h
    go_enter Tryz.func61, Tryz.ntmps61
    go_wp2_with (at_builtin; refine wpList_append_own _ rfl _ _ 36 rfl w.heap.size 3 i0 (.int .i64 0) 1 8 Tryz.underlying36 hi hz0 hz1 hz2 rfl (by decide) _ _ _ rfl (World.ownsRow_made w #[] 0 (Nat.le_refl _) (Nat.zero_le _) (by simp)) ⟨g, 0, none⟩ n cap xs rfl ?qc1 ?qc2 ?qc3 ?qc4 ?qc5 ?qc6 ?_)
    case qc1 => exact hl
    case qc2 =>
      intro j u hj
      exact Lib.cell?_alloc_some _ (A.out j u hj)
    case qc3 => exact h1
    case qc4 => unfold maxLen; omega
    case qc5 => omega
    case qc6 => simp
    intro v' w1 hown hgrow _
    go_wp2
    go_ret
    exact ⟨v', rfl, by simpa using hown, ((Below.refl _ w).alloc (Nat.le_refl _) _).grown hgrow (by simp) (by intro k hk; simp [Value.ownBlock] at hk; omega)⟩

theorem int_cells {w : World} {base g cap : Nat} {l : List Nat} {e : TypeId} (h : w.ownsRow base e 1 (.slice (some ⟨g, 0, none⟩) l.length cap) l.length (l.map natV)) :
    ∀ j, j < l.length → w.cell? ⟨g, j, none⟩ = some (.int .i64 ((l.getD j 0 : Nat) : Int)) := by
  intro j hj
  have := h.cells (g := g) rfl j (natV (l.getD j 0)) (by simp [List.getD, hj])
  have e : (⟨g, 0, none⟩ : Addr).add j = ⟨g, j, none⟩ := by unfold Addr.add; split <;> simp_all
  rw [e] at this
  exact this

set_option maxHeartbeats 800000 in
theorem index_any {w : World} {B : Nat} {v : Value} {l : List Nat} (h : w.ownsRow B 3 1 v l.length (l.map natV)) (x : Int) (hn : l.length ≤ 100000) :
    Calls Tryz.prog 100 #[v, .int .i64 x] w fun e w' => (∃ r : Int, e = .returned (.int .i64 r) ∧ (0 ≤ r ↔ ∃ u ∈ l, (u : Int) = x)) ∧ w = w' := by
  have hv : ∃ a c, v = .slice a l.length c ∧ ∀ j, j < l.length → ∃ g, a = some ⟨g, 0, none⟩ ∧ w.cell? ⟨g, j, none⟩ = some (.int .i64 ((l.getD j 0 : Nat) : Int)) := by
    rcases h.2 with ⟨rfl, h0⟩ | ⟨g, cap, cur, rfl, _⟩
    · exact ⟨none, 0, by rw [h0], fun j hj => by omega⟩
    · exact ⟨_, _, rfl, fun j hj => ⟨g, rfl, int_cells h j hj⟩⟩
  obtain ⟨a, c, rfl, hc⟩ := hv
  have HC : Hid (∀ j, j < l.length → ∃ g, a = some ⟨g, 0, none⟩ ∧ w.cell? ⟨g, j, none⟩ = some (.int .i64 ((l.getD j 0 : Nat) : Int))) := hc
  have hmem : ∀ k, k = l.length → (∀ j, j < k → ((l.getD j 0 : Nat) : Int) ≠ x) → ¬ ∃ u ∈ l, (u : Int) = x := by
    rintro k rfl hk ⟨u, hu, rfl⟩
    obtain ⟨j, hj, rfl⟩ := List.getElem_of_mem hu
    exact hk j hj (by simp [List.getD, hj])
  have HM : Hid (∀ k, k = l.length → (∀ j, j < k → ((l.getD j 0 : Nat) : Int) ≠ x) → ¬ ∃ u ∈ l, (u : Int) = x) := hmem
  have HI : Hid (∀ k, k < l.length → ((l.getD k 0 : Nat) : Int) = x → ∃ u ∈ l, (u : Int) = x) := fun k hk he => ⟨l[k], by simp, by rw [← he]; simp [List.getD, hk]⟩
  clear h hc hmem
  generalize l.length = n at HC HM HI hn ⊢
  go_enter Tryz.func100, Tryz.ntmps100
  go_wp2
  go_loop [8] (fun i => ∃ k : Nat, k ≤ n ∧ i = .int .i64 k ∧ ∀ j, j < k → ((l.getD j 0 : Nat) : Int) ≠ x) (fun i => n - (intOf i).toNat)
  case atStart => exact ⟨0, Nat.zero_le _, rfl, fun j hj => by omega⟩
  case round =>
    obtain ⟨k, hk, rfl, hne⟩ := hrel
    have HN : Hid (∀ j, j < k → ((l.getD j 0 : Nat) : Int) ≠ x) := hne
    clear hne
    by_cases hlt : k < n
    · obtain ⟨g, rfl, hck⟩ := HC.out k hlt
      have HK := HI.out k hlt
      have HI2 : Hid (((l.getD k 0 : Nat) : Int) = x → ∃ u ∈ l, (u : Int) = x) := HK
      have HS : Hid (((l.getD k 0 : Nat) : Int) ≠ x → ∀ j, j < k + 1 → ((l.getD j 0 : Nat) : Int) ≠ x) := by
        intro h j hj
        by_cases e : j = k
        · rw [e]; exact h
        · exact HN.out j (by omega)
      clear HK
      generalize ((l.getD k 0 : Nat) : Int) = y at hck HI2 HS
      by_cases hxy : x = y
      · have hbb : (x == y) = true := by simp [hxy]
        go_wp2
        go_ret
        refine ⟨⟨_, rfl, ⟨fun _ => ?_, fun _ => by omega⟩⟩, rfl⟩
        obtain ⟨u, hu, he⟩ := HI2.out hxy.symm
        exact ⟨u, hu, by omega⟩
      · have hbb : (x == y) = false := by simp [hxy]
        go_wp2
        go_round
        case rel => exact ⟨k + 1, by omega, by go_num, HS.out (fun e => hxy e.symm)⟩
        case measure => simp [intOf]; omega
    · obtain rfl : k = n := by omega
      have hm : Hid (¬ ∃ u ∈ l, (u : Int) = x) := HM.out k rfl HN.out
      go_wp2
      go_ret
      refine ⟨⟨-1, rfl, ?_⟩, rfl⟩
      constructor
      · intro h; omega
      · intro h; exact (hm.out h).elim

set_option maxHeartbeats 800000 in
theorem contains_any {w : World} {B : Nat} {v : Value} {l : List Nat} (h : w.ownsRow B 3 1 v l.length (l.map natV)) (x : Int) (hn : l.length ≤ 100000) :
    Calls Tryz.prog 75 #[v, .int .i64 x] w fun e w' => e = .returned (.bool (l.any (fun u => (u : Int) == x))) ∧ w = w' := by
  have HX := index_any h x hn
  have HX2 : Hid (Calls Tryz.prog 100 #[v, .int .i64 x] w fun e w' => (∃ r : Int, e = .returned (.int .i64 r) ∧ (0 ≤ r ↔ ∃ u ∈ l, (u : Int) = x)) ∧ w = w') := HX
  have HA : Hid ((l.any (fun u => (u : Int) == x)) = true ↔ ∃ u ∈ l, (u : Int) = x) := by show _ ↔ _; simp
  clear HX h
  generalize l.any (fun u => (u : Int) == x) = r0 at HA ⊢
  go_enter Tryz.func75, Tryz.ntmps75
  go_wp2_with (go_at_call 100; (with_reducible refine HX2.out.mono ?_); rintro e w' ⟨⟨r, rfl, hr⟩, rfl⟩; have HR : Hid (0 ≤ r ↔ ∃ u ∈ l, (u : Int) = x) := hr; clear hr)
  go_ret
  refine ⟨?_, rfl⟩
  have h1 := HA.out
  have h2 := HR.out
  congr 2
  cases r0
  · have : ¬ 0 ≤ r := fun h => by have := h1.2 (h2.1 h); cases this
    simp; omega
  · have : 0 ≤ r := h2.2 (h1.1 rfl)
    simp; omega
end Go.Proofs.YtekhlaodlagbdaaGreatDoor

/-
  A map whose edges have been found, or not yet: what sync.Once.Do makes of it.
-/
namespace Go.Proofs.YtekhlaodlagbdaaGreatDoor
set_option maxRecDepth 100000
open Go.RowKit

/-- The tables lie there. -/
structure Done (b R C : Nat) (ms : List UInt8) (w : World) : Prop where
  c3 : w.cell? ⟨b, 3, none⟩ = some (.int .u32 1)
  cnt : w.cell? ⟨b, 8, none⟩ = some (.int .i64 (eds R C ms ms.length : Int))
  tables : ∃ B gn gb T, Mem B gn gb ms.length [gn, gb] (tabs R C ms.length ms ms.length) T w ∧ w.cell? ⟨b, 6, none⟩ = some (.slice (some ⟨gn, 0, none⟩) ms.length ms.length) ∧
    w.cell? ⟨b, 7, none⟩ = some (.slice (some ⟨gb, 0, none⟩) ms.length ms.length)

structure EM (b g cap R C : Nat) (ms : List UInt8) (w : World) : Prop where
  ways : Ways w
  wb : 0 ≠ b
  gb : g ≠ b
  hC : 1 ≤ C
  hC2 : C ≤ 32
  hR : R ≤ 32
  hN : R * C = ms.length
  mark : ∀ u, u < ms.length → w.cell? ⟨g, u, none⟩ = some (.int .u8 ((ms.getD u 0).toNat : Int))
  c0 : w.cell? ⟨b, 0, none⟩ = some (.int .i64 (R : Int))
  c1 : w.cell? ⟨b, 1, none⟩ = some (.int .i64 (C : Int))
  c2 : w.cell? ⟨b, 2, none⟩ = some (.slice (some ⟨g, 0, none⟩) ms.length cap)
  st : w.heap[b]? = some (.cells (cellsE R C (.slice (some ⟨g, 0, none⟩) ms.length cap) 0 0 (.slice none 0 0) (.slice none 0 0) 0) 64 (0, 0)) ∨ Done b R C ms w

theorem Done.grown {b R C : Nat} {ms : List UInt8} {w w' : World} {row : Option Nat} (h : Done b R C ms w) (hg : w.grownBy w' row) (hr : ∀ r, row = some r → ∃ o : Obj, w.heap[r]? = some o ∧ o.isCells = false) : Done b R C ms w' := by
  have hb : some b ≠ row := fun e => by
    obtain ⟨o, ho, hc⟩ := hr _ e.symm
    rw [cells_of_cell h.c3 ho] at hc; cases hc
  obtain ⟨B, gn, gb, T, hT, h6, h7⟩ := h.tables
  exact ⟨hg.cell h.c3 hb, hg.cell h.cnt hb, B, gn, gb, T, hT.others hg hr, hg.cell h6 hb, hg.cell h7 hb⟩

theorem grown_of_below {w w' : World} (h : Below w.heap.size w w') (row : Option Nat) : w.grownBy w' row := ⟨h.os, h.tape, h.output, h.size, fun k hk _ => h.block k hk⟩
theorem grown_trans {a b c : World} {row : Option Nat} (h : a.grownBy b row) (k : b.grownBy c row) : a.grownBy c row :=
  ⟨k.os.trans h.os, k.tape.trans h.tape, k.output.trans h.output, Nat.le_trans h.size k.size, fun i hi hne => (k.block i (Nat.lt_of_lt_of_le hi h.size) hne).trans (h.block i hi hne)⟩
theorem grown_set (w : World) (b j : Nat) (v : Value) : w.grownBy (w.setCell ⟨b, j, none⟩ v) (some b) :=
  ⟨rfl, rfl, rfl, by simp, fun k _ hk => Below.heap_setCell _ _ _ k (fun e => hk (by rw [e]))⟩

theorem EM.grown {b g cap R C : Nat} {ms : List UInt8} {w w' : World} (h : EM b g cap R C ms w) (hg : w.grownBy w' none) : EM b g cap R C ms w' where
  ways j u hj := hg.cell (h.ways j u hj) (by simp)
  wb := h.wb
  gb := h.gb
  hC := h.hC
  hC2 := h.hC2
  hR := h.hR
  hN := h.hN
  mark u hu := hg.cell (h.mark u hu) (by simp)
  c0 := hg.cell h.c0 (by simp)
  c1 := hg.cell h.c1 (by simp)
  c2 := hg.cell h.c2 (by simp)
  st := h.st.imp (fun h => (hg.block b (blk_lt h) (by simp)).trans h) (fun h => h.grown hg (by intro r e; cases e))

theorem EM.below {b g cap R C : Nat} {ms : List UInt8} {w w' : World} (h : EM b g cap R C ms w) (hb : Below w.heap.size w w') : EM b g cap R C ms w' := h.grown (grown_of_below hb none)

/-- Only the block b of the map turns. -/
theorem EM.turned {b g cap R C : Nat} {ms : List UInt8} {w w' : World} (h : EM b g cap R C ms w) (hg : w.grownBy w' (some b)) (h0 : w'.cell? ⟨b, 0, none⟩ = some (.int .i64 (R : Int))) (h1 : w'.cell? ⟨b, 1, none⟩ = some (.int .i64 (C : Int)))
    (h2 : w'.cell? ⟨b, 2, none⟩ = some (.slice (some ⟨g, 0, none⟩) ms.length cap)) (hd : Done b R C ms w') : EM b g cap R C ms w' where
  ways j u hj := hg.cell (h.ways j u hj) (fun e => h.wb (by injection e))
  wb := h.wb
  gb := h.gb
  hC := h.hC
  hC2 := h.hC2
  hR := h.hR
  hN := h.hN
  mark u hu := hg.cell (h.mark u hu) (fun e => h.gb (by injection e))
  c0 := h0
  c1 := h1
  c2 := h2
  st := .inr hd

theorem World.drew_grown (w : World) (row : Option Nat) : w.grownBy w.drew row := ⟨rfl, rfl, rfl, Nat.le_refl _, fun _ _ _ => rfl⟩

set_option maxHeartbeats 1600000 in
theorem do_any {b g cap R C : Nat} {ms : List UInt8} {w : World} (h : EM b g cap R C ms w) :
    Calls Tryz.prog 73 #[.pointer (some ⟨b, 3, none⟩), .func (.func 74) #[.pointer (some ⟨b, 0, none⟩)] #[]] w fun e w' => e = .returned (.tuple #[]) ∧ EM b g cap R C ms w' ∧ Done b R C ms w' ∧ w.grownBy w' (some b) ∧ (Done b R C ms w → w' = w) := by
  rcases h.st with hb | hd
  · have e0 : w.cell? ⟨b, 3, none⟩ = some (.int .u32 0) := by rw [blk_cell hb]; rfl
    have e1 : w.cell? ⟨b, 4, none⟩ = some (.int .i32 0) := by rw [blk_cell hb]; rfl
    have hg1 := grown_set w b 4 (.int .i32 1)
    have hb1 : (w.setCell ⟨b, 4, none⟩ (.int .i32 1)).heap[b]? = some (.cells (cellsE R C (.slice (some ⟨g, 0, none⟩) ms.length cap) 0 1 (.slice none 0 0) (.slice none 0 0) 0) 64 (0, 0)) := by
      rw [blk_set hb]; rfl
    have hf := find_any b g cap R C ms (w.setCell ⟨b, 4, none⟩ (.int .i32 1)) h.hC h.hC2 h.hR h.hN (fun j u hj => hg1.cell (h.ways j u hj) (fun e => h.wb (by injection e))) h.wb h.gb (fun u hu => hg1.cell (h.mark u hu) (fun e => h.gb (by injection e))) hb1
    refine (do_first b (fun W => Found b R C ms (w.setCell ⟨b, 4, none⟩ (.int .i32 1)) W) w e0 e1 (blk_free hb 4) (hf.mono ?_)).mono ?_
    · rintro e W ⟨he, hF⟩
      exact ⟨he, hF, hF.low 3 (by omega) _ (by rw [blk_cell hb1]; rfl), hF.free 3, hF.low 4 (by omega) _ (by rw [blk_cell hb1]; rfl), hF.free 4⟩
    · rintro e w' ⟨W, hF, rfl, rfl⟩
      have k1 := grown_set W.drew b 3 (.int .u32 1)
      have k2 := grown_set (W.drew.setCell ⟨b, 3, none⟩ (.int .u32 1)) b 4 (.int .i32 0)
      have kW : W.grownBy ((W.drew.setCell ⟨b, 3, none⟩ (.int .u32 1)).setCell ⟨b, 4, none⟩ (.int .i32 0)) (some b) := grown_trans (grown_trans (World.drew_grown W _) k1) k2
      have hg : w.grownBy ((W.drew.setCell ⟨b, 3, none⟩ (.int .u32 1)).setCell ⟨b, 4, none⟩ (.int .i32 0)) (some b) := grown_trans (grown_trans hg1 hF.grown) kW
      have hc : ∀ j, j ≠ 3 → j ≠ 4 → ∀ v, W.cell? ⟨b, j, none⟩ = some v → ((W.drew.setCell ⟨b, 3, none⟩ (.int .u32 1)).setCell ⟨b, 4, none⟩ (.int .i32 0)).cell? ⟨b, j, none⟩ = some v := by
        intro j h3 h4 v hv
        rw [World.cell?_setCell_other _ ⟨b, 4, none⟩ ⟨b, j, none⟩ _ (by intro e; apply h4; cases e; rfl), World.cell?_setCell_other _ ⟨b, 3, none⟩ ⟨b, j, none⟩ _ (by intro e; apply h3; cases e; rfl), World.cell?_drew]
        exact hv
      have hd : Done b R C ms ((W.drew.setCell ⟨b, 3, none⟩ (.int .u32 1)).setCell ⟨b, 4, none⟩ (.int .i32 0)) := by
        obtain ⟨gn, gb, T, hT, h6, h7, l1, l2⟩ := hF.tables
        have hbw : b < w.heap.size := blk_lt hb
        have hs : (w.setCell ⟨b, 4, none⟩ (.int .i32 1)).heap.size = w.heap.size := by simp
        refine ⟨?_, hc 8 (by omega) (by omega) _ hF.cnt, _, gn, gb, T, hT.kept kW ?_ ?_ ?_, hc 6 (by omega) (by omega) _ h6, hc 7 (by omega) (by omega) _ h7⟩
        · rw [World.cell?_setCell_other _ ⟨b, 4, none⟩ ⟨b, 3, none⟩ _ (by simp)]
          exact World.cell?_setCell_same _ _ _ ((World.cell?_drew _ _).trans (hF.low 3 (by omega) _ (by rw [blk_cell hb1]; rfl)))
        · intro e; injection e with e; omega
        · intro e; injection e with e; omega
        · intro j hj
          right
          intro e
          have := ((hT.own j hj).lt b e).1
          omega
      exact ⟨rfl, h.turned hg (hc 0 (by omega) (by omega) _ (hF.low 0 (by omega) _ (by rw [blk_cell hb1]; rfl))) (hc 1 (by omega) (by omega) _ (hF.low 1 (by omega) _ (by rw [blk_cell hb1]; rfl))) (hc 2 (by omega) (by omega) _ (hF.low 2 (by omega) _ (by rw [blk_cell hb1]; rfl))) hd, hd, hg, fun h' => by have := h'.c3; rw [e0] at this; cases this⟩
  · refine (do_done b _ w hd.c3).mono ?_
    rintro e w' ⟨rfl, rfl⟩
    exact ⟨rfl, h, hd, ⟨rfl, rfl, rfl, Nat.le_refl _, fun _ _ _ => rfl⟩, fun _ => rfl⟩
end Go.Proofs.YtekhlaodlagbdaaGreatDoor

/-
  The walks of grid.Map's Next, Back, Edge, Edges, Far.
-/
namespace Go.Proofs.YtekhlaodlagbdaaGreatDoor
set_option maxRecDepth 100000
open Go.RowKit

/-- The cells that are gone to from cell i; none, if there is no such cell. -/
def nextZ (R C : Nat) (ms : List UInt8) (i : Int) : List Nat := if 0 ≤ i ∧ i < (ms.length : Int) then outs R C ms i.toNat else []
/-- The cells that go to cell u. -/
def ins (R C : Nat) (ms : List UInt8) (u : Nat) : List Nat := (List.range ms.length).filter (fun i => decide (u ∈ outs R C ms i))
def backZ (R C : Nat) (ms : List UInt8) (i : Int) : List Nat := if 0 ≤ i ∧ i < (ms.length : Int) then ins R C ms i.toNat else []

/-- What Next and Back leave: a list of new memory. -/
def TabPost (b g cap R C : Nat) (ms : List UInt8) (w : World) (i : Int) (l : List Nat) (e : Ending) (w' : World) : Prop :=
  ∃ v w1, e = .returned v ∧ EM b g cap R C ms w1 ∧ w.grownBy w1 (some b) ∧ (Done b R C ms w → w1 = w) ∧ (0 ≤ i ∧ i < (ms.length : Int) → Done b R C ms w1) ∧ w'.ownsRow w1.heap.size 3 1 v l.length (l.map natV) ∧ Below w1.heap.size w1 w'

theorem Done.next {b R C : Nat} {ms : List UInt8} {w : World} (h : Done b R C ms w) (hC : 1 ≤ C) {k : Nat} (hk : k < ms.length) :
    ∃ B gn v, w.cell? ⟨b, 6, none⟩ = some (.slice (some ⟨gn, 0, none⟩) ms.length ms.length) ∧ w.cell? ⟨gn, k, none⟩ = some v ∧ w.ownsRow B 3 1 v (outs R C ms k).length ((outs R C ms k).map natV) := by
  have _ := hC
  obtain ⟨B, gn, gb, T, hT, h6, h7⟩ := h.tables
  have h1 := hT.cell k (by omega)
  have h2 := hT.own k (by omega)
  rw [loc_lo hk] at h1
  rw [tabs_lo hk, if_pos hk] at h2
  exact ⟨B, gn, T k, h6, h1, h2⟩

theorem Done.back {b R C : Nat} {ms : List UInt8} {w : World} (h : Done b R C ms w) (hC : 1 ≤ C) {k : Nat} (hk : k < ms.length) :
    ∃ B gb v, w.cell? ⟨b, 7, none⟩ = some (.slice (some ⟨gb, 0, none⟩) ms.length ms.length) ∧ w.cell? ⟨gb, k, none⟩ = some v ∧ w.ownsRow B 3 1 v (ins R C ms k).length ((ins R C ms k).map natV) := by
  obtain ⟨B, gn, gb, T, hT, h6, h7⟩ := h.tables
  have h1 := hT.cell (ms.length + k) (by omega)
  have h2 := hT.own (ms.length + k) (by omega)
  rw [loc_hi] at h1
  rw [tabs_hi hC _ (Nat.le_refl _)] at h2
  exact ⟨B, gb, T (ms.length + k), h7, h1, h2⟩

theorem nat_one (l : List Nat) : ∀ u ∈ l.map natV, u.oneCell' = true := by
  intro u hu
  obtain ⟨x, _, rfl⟩ := List.mem_map.1 hu
  rfl

theorem EM.len {b g cap R C : Nat} {ms : List UInt8} {w : World} (h : EM b g cap R C ms w) : ms.length ≤ 1024 := by
  rw [← h.hN]; exact Nat.mul_le_mul h.hR h.hC2

theorem ins_len (R C : Nat) (ms : List UInt8) (u : Nat) : (ins R C ms u).length ≤ ms.length := Nat.le_trans (List.length_filter_le _ _) (by simp)

set_option maxHeartbeats 800000 in
theorem next_any {b g cap R C : Nat} {ms : List UInt8} {w : World} (i : Int) (h : EM b g cap R C ms w) :
    Calls Tryz.prog 49 #[.pointer (some ⟨b, 0, none⟩), .int .i64 i] w (TabPost b g cap R C ms w i (nextZ R C ms i)) := by
  have hc2 := h.c2
  have hlen := h.len
  by_cases hi : 0 ≤ i ∧ i < (ms.length : Int)
  · obtain ⟨k, rfl⟩ := Int.eq_ofNat_of_zero_le hi.1
    have hk : k < ms.length := by omega
    have hl : nextZ R C ms (k : Int) = outs R C ms k := by unfold nextZ; rw [if_pos hi]; rfl
    rw [hl]
    have ho := outs_len R C ms k
    have hb : (decide (0 ≤ (k : Int)) && decide ((k : Int) < (ms.length : Int))) = true := by simp [hk]
    have HD : Hid (Calls Tryz.prog 73 #[.pointer (some ⟨b, 3, none⟩), .func (.func 74) #[.pointer (some ⟨b, 0, none⟩)] #[]] w fun e w' => e = .returned (.tuple #[]) ∧ EM b g cap R C ms w' ∧ Done b R C ms w' ∧ w.grownBy w' (some b) ∧ (Done b R C ms w → w' = w)) := do_any h
    have HN : Hid (∀ w', Done b R C ms w' → ∃ B gn v, w'.cell? ⟨b, 6, none⟩ = some (.slice (some ⟨gn, 0, none⟩) ms.length ms.length) ∧ w'.cell? ⟨gn, k, none⟩ = some v ∧ w'.ownsRow B 3 1 v (outs R C ms k).length ((outs R C ms k).map natV)) := fun w' hd => hd.next h.hC hk
    have hki : (k : Int) < (ms.length : Int) := by omega
    have hk0 : 0 ≤ (k : Int) := by omega
    have hone := nat_one (outs R C ms k)
    clear h hl hi
    go_enter Tryz.func49, Tryz.ntmps49
    go_wp2_with (first
      | (go_at_call 72; refine (has_any _ _ _ _ _ _ hc2).mono ?_; rintro e w' ⟨rfl, rfl⟩; rw [hb])
      | (go_at_call 73; (with_reducible refine HD.out.mono ?_); rintro e w1 ⟨rfl, hE, hDn, hg, hsm⟩; have HS : Hid (Done b R C ms w → w1 = w) := hsm; have HDn : Hid (Done b R C ms w1) := hDn; clear hsm; obtain ⟨B, gn, v, c6, ck, hown⟩ := HN.out w1 hDn; have HE : Hid (EM b g cap R C ms w1) := hE; have HG : Hid (w.grownBy w1 (some b)) := hg; clear hE hDn hg)
      | (go_at_call 61; (with_reducible refine (clone_any hown (by omega) hone).mono ?_); rintro e w2 ⟨v', rfl, hown2, hb2⟩))
    go_ret
    exact ⟨v', w1, rfl, HE.out, HG.out, HS.out, fun _ => HDn.out, hown2, hb2⟩
  · have hl : nextZ R C ms i = [] := by unfold nextZ; rw [if_neg hi]
    rw [hl]
    have hb : (decide (0 ≤ i) && decide (i < (ms.length : Int))) = false := by
      rw [Bool.eq_false_iff]; intro e; apply hi; simpa using e
    have HE : Hid (EM b g cap R C ms w) := h
    have HI : Hid (¬ (0 ≤ i ∧ i < (ms.length : Int))) := hi
    clear h hl hi
    go_enter Tryz.func49, Tryz.ntmps49
    go_wp2_with (go_at_call 72; refine (has_any _ _ _ _ _ _ hc2).mono ?_; rintro e w' ⟨rfl, rfl⟩; rw [hb])
    go_ret
    exact ⟨_, w, rfl, HE.out, ⟨rfl, rfl, rfl, Nat.le_refl _, fun _ _ _ => rfl⟩, fun _ => rfl, fun h => (HI.out h).elim, World.ownsRow_nil _ _ _ _, Below.refl _ _⟩

set_option maxHeartbeats 800000 in
theorem back_any {b g cap R C : Nat} {ms : List UInt8} {w : World} (i : Int) (h : EM b g cap R C ms w) :
    Calls Tryz.prog 112 #[.pointer (some ⟨b, 0, none⟩), .int .i64 i] w (TabPost b g cap R C ms w i (backZ R C ms i)) := by
  have hc2 := h.c2
  have hlen := h.len
  by_cases hi : 0 ≤ i ∧ i < (ms.length : Int)
  · obtain ⟨k, rfl⟩ := Int.eq_ofNat_of_zero_le hi.1
    have hk : k < ms.length := by omega
    have hl : backZ R C ms (k : Int) = ins R C ms k := by unfold backZ; rw [if_pos hi]; rfl
    rw [hl]
    have ho := ins_len R C ms k
    have hb : (decide (0 ≤ (k : Int)) && decide ((k : Int) < (ms.length : Int))) = true := by simp [hk]
    have HD : Hid (Calls Tryz.prog 73 #[.pointer (some ⟨b, 3, none⟩), .func (.func 74) #[.pointer (some ⟨b, 0, none⟩)] #[]] w fun e w' => e = .returned (.tuple #[]) ∧ EM b g cap R C ms w' ∧ Done b R C ms w' ∧ w.grownBy w' (some b) ∧ (Done b R C ms w → w' = w)) := do_any h
    have HN : Hid (∀ w', Done b R C ms w' → ∃ B gn v, w'.cell? ⟨b, 7, none⟩ = some (.slice (some ⟨gn, 0, none⟩) ms.length ms.length) ∧ w'.cell? ⟨gn, k, none⟩ = some v ∧ w'.ownsRow B 3 1 v (ins R C ms k).length ((ins R C ms k).map natV)) := fun w' hd => hd.back h.hC hk
    have hki : (k : Int) < (ms.length : Int) := by omega
    have hk0 : 0 ≤ (k : Int) := by omega
    have hone := nat_one (ins R C ms k)
    clear h hl hi
    go_enter Tryz.func112, Tryz.ntmps112
    go_wp2_with (first
      | (go_at_call 72; refine (has_any _ _ _ _ _ _ hc2).mono ?_; rintro e w' ⟨rfl, rfl⟩; rw [hb])
      | (go_at_call 73; (with_reducible refine HD.out.mono ?_); rintro e w1 ⟨rfl, hE, hDn, hg, hsm⟩; have HS : Hid (Done b R C ms w → w1 = w) := hsm; have HDn : Hid (Done b R C ms w1) := hDn; clear hsm; obtain ⟨B, gn, v, c6, ck, hown⟩ := HN.out w1 hDn; have HE : Hid (EM b g cap R C ms w1) := hE; have HG : Hid (w.grownBy w1 (some b)) := hg; clear hE hDn hg)
      | (go_at_call 61; (with_reducible refine (clone_any hown (by omega) hone).mono ?_); rintro e w2 ⟨v', rfl, hown2, hb2⟩))
    go_ret
    exact ⟨v', w1, rfl, HE.out, HG.out, HS.out, fun _ => HDn.out, hown2, hb2⟩
  · have hl : backZ R C ms i = [] := by unfold backZ; rw [if_neg hi]
    rw [hl]
    have hb : (decide (0 ≤ i) && decide (i < (ms.length : Int))) = false := by
      rw [Bool.eq_false_iff]; intro e; apply hi; simpa using e
    have HE : Hid (EM b g cap R C ms w) := h
    have HI : Hid (¬ (0 ≤ i ∧ i < (ms.length : Int))) := hi
    clear h hl hi
    go_enter Tryz.func112, Tryz.ntmps112
    go_wp2_with (go_at_call 72; refine (has_any _ _ _ _ _ _ hc2).mono ?_; rintro e w' ⟨rfl, rfl⟩; rw [hb])
    go_ret
    exact ⟨_, w, rfl, HE.out, ⟨rfl, rfl, rfl, Nat.le_refl _, fun _ _ _ => rfl⟩, fun _ => rfl, fun h => (HI.out h).elim, World.ownsRow_nil _ _ _ _, Below.refl _ _⟩

set_option maxHeartbeats 800000 in
theorem medge_any {b g cap R C : Nat} {ms : List UInt8} {w : World} (i x : Int) (h : EM b g cap R C ms w) :
    Calls Tryz.prog 35 #[.pointer (some ⟨b, 0, none⟩), .int .i64 i, .int .i64 x] w fun e w' => e = .returned (.bool ((nextZ R C ms i).any (fun u => (u : Int) == x))) ∧ EM b g cap R C ms w' ∧ w.grownBy w' (some b) := by
  have hc2 := h.c2
  have hlen := h.len
  by_cases hi : 0 ≤ i ∧ i < (ms.length : Int)
  · obtain ⟨k, rfl⟩ := Int.eq_ofNat_of_zero_le hi.1
    have hk : k < ms.length := by omega
    have hl : nextZ R C ms (k : Int) = outs R C ms k := by unfold nextZ; rw [if_pos hi]; rfl
    rw [hl]
    have ho := outs_len R C ms k
    have hb : (decide (0 ≤ (k : Int)) && decide ((k : Int) < (ms.length : Int))) = true := by simp [hk]
    have HD : Hid (Calls Tryz.prog 73 #[.pointer (some ⟨b, 3, none⟩), .func (.func 74) #[.pointer (some ⟨b, 0, none⟩)] #[]] w fun e w' => e = .returned (.tuple #[]) ∧ EM b g cap R C ms w' ∧ Done b R C ms w' ∧ w.grownBy w' (some b) ∧ (Done b R C ms w → w' = w)) := do_any h
    have HN : Hid (∀ w', Done b R C ms w' → ∃ B gn v, w'.cell? ⟨b, 6, none⟩ = some (.slice (some ⟨gn, 0, none⟩) ms.length ms.length) ∧ w'.cell? ⟨gn, k, none⟩ = some v ∧ w'.ownsRow B 3 1 v (outs R C ms k).length ((outs R C ms k).map natV)) := fun w' hd => hd.next h.hC hk
    have HC : Hid (∀ w' B v, w'.ownsRow B 3 1 v (outs R C ms k).length ((outs R C ms k).map natV) → Calls Tryz.prog 75 #[v, .int .i64 x] w' fun e w'' => e = .returned (.bool ((outs R C ms k).any (fun u => (u : Int) == x))) ∧ w' = w'') := fun w' B v ho' => contains_any ho' x (by omega)
    have hki : (k : Int) < (ms.length : Int) := by omega
    have hk0 : 0 ≤ (k : Int) := by omega
    clear h hl hi
    generalize (outs R C ms k).any (fun u => (u : Int) == x) = r at HC ⊢
    go_enter Tryz.func35, Tryz.ntmps35
    go_wp2_with (first
      | (go_at_call 72; refine (has_any _ _ _ _ _ _ hc2).mono ?_; rintro e w' ⟨rfl, rfl⟩; rw [hb])
      | (go_at_call 73; (with_reducible refine HD.out.mono ?_); rintro e w1 ⟨rfl, hE, hDn, hg, hsm⟩; have HS : Hid (Done b R C ms w → w1 = w) := hsm; have HDn : Hid (Done b R C ms w1) := hDn; clear hsm; obtain ⟨B, gn, v, c6, ck, hown⟩ := HN.out w1 hDn; have HE : Hid (EM b g cap R C ms w1) := hE; have HG : Hid (w.grownBy w1 (some b)) := hg; clear hE hDn hg)
      | (go_at_call 75; (with_reducible refine (HC.out _ _ _ hown).mono ?_); rintro e w2 ⟨rfl, rfl⟩))
    go_ret
    exact ⟨rfl, HE.out, HG.out⟩
  · have hl : nextZ R C ms i = [] := by unfold nextZ; rw [if_neg hi]
    rw [hl]
    have hb : (decide (0 ≤ i) && decide (i < (ms.length : Int))) = false := by
      rw [Bool.eq_false_iff]; intro e; apply hi; simpa using e
    have HE : Hid (EM b g cap R C ms w) := h
    clear h hl hi
    go_enter Tryz.func35, Tryz.ntmps35
    go_wp2_with (go_at_call 72; refine (has_any _ _ _ _ _ _ hc2).mono ?_; rintro e w' ⟨rfl, rfl⟩; rw [hb])
    go_ret
    exact ⟨rfl, HE.out, ⟨rfl, rfl, rfl, Nat.le_refl _, fun _ _ _ => rfl⟩⟩

set_option maxHeartbeats 800000 in
theorem edges_any {b g cap R C : Nat} {ms : List UInt8} {w : World} (h : EM b g cap R C ms w) :
    Calls Tryz.prog 37 #[.pointer (some ⟨b, 0, none⟩)] w fun e w' => e = .returned (.int .i64 (eds R C ms ms.length : Int)) ∧ EM b g cap R C ms w' ∧ w.grownBy w' (some b) := by
  have HD : Hid (Calls Tryz.prog 73 #[.pointer (some ⟨b, 3, none⟩), .func (.func 74) #[.pointer (some ⟨b, 0, none⟩)] #[]] w fun e w' => e = .returned (.tuple #[]) ∧ EM b g cap R C ms w' ∧ Done b R C ms w' ∧ w.grownBy w' (some b) ∧ (Done b R C ms w → w' = w)) := do_any h
  clear h
  go_enter Tryz.func37, Tryz.ntmps37
  go_wp2_with (go_at_call 73; (with_reducible refine HD.out.mono ?_); rintro e w1 ⟨rfl, hE, hDn, hg, hsm⟩; have HS : Hid (Done b R C ms w → w1 = w) := hsm; clear hsm; have c8 := hDn.cnt; have HE : Hid (EM b g cap R C ms w1) := hE; have HG : Hid (w.grownBy w1 (some b)) := hg; clear hE hDn hg)
  go_ret
  exact ⟨rfl, HE.out, HG.out⟩
end Go.Proofs.YtekhlaodlagbdaaGreatDoor
