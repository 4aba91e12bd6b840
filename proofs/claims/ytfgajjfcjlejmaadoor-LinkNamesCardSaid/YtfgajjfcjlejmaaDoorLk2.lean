/-
  A link's small calls: whether it was made; claims and messages like others; packets.
-/
import Derived.Test.YtfgajjfcjlejmaaDoorLk1
import Derived.RegionTactic
import Derived.BigRegion
import Derived.Deep.RegionHeld3
import Derived.Deep.QuietTactic
import Derived.BigQuiet
import Derived.StillTailTactics
namespace Go.Proofs.YtfgajjfcjlejmaaDoor
set_option maxRecDepth 100000
set_option linter.unusedSimpArgs false
open Go Go.RowKit Wr
attribute [local go_sem] Oper.semAt_some

theorem lisRobot_any (w : World) (n : Int) : Calls Tryd.prog 31 #[.int .i64 n] w fun e w' => e = .returned (.bool (isR n)) ∧ w' = w := by
  have hn : isR n = (decide (0 ≤ n) && decide (n < 64)) := by unfold isR; by_cases h : 0 ≤ n <;> by_cases h2 : n < 64 <;> simp [h, h2]
  rw [hn]
  clear hn
  by_cases h : 0 ≤ n
  · have e1 : decide (0 ≤ n) = true := by simpa using h
    rw [e1]
    clear h
    go_enter Tryd.func31, Tryd.ntmps31
    go_wp2
    go_ret
    exact ⟨rfl, rfl⟩
  · have e1 : decide (0 ≤ n) = false := by simpa using h
    rw [e1]
    clear h
    go_enter Tryd.func31, Tryd.ntmps31
    go_wp2
    go_ret
    exact ⟨rfl, rfl⟩
theorem isBare_any (w : World) (n : Int) : Calls Tryd.prog 41 #[.int .i64 n] w fun e w' => e = .returned (.bool (Lk.isB n)) ∧ w' = w := by
  unfold Lk.isB
  cases e1 : (n == 9)
  · go_enter Tryd.func41, Tryd.ntmps41
    go_wp2
    go_ret
    exact ⟨rfl, rfl⟩
  · go_enter Tryd.func41, Tryd.ntmps41
    go_wp2
    go_ret
    exact ⟨rfl, rfl⟩
theorem made_none (w : World) : Calls Tryd.prog 35 #[.pointer none] w fun e w' => e = .returned (.bool false) ∧ w' = w := by
  go_enter Tryd.func35, Tryd.ntmps35
  go_wp2
  go_ret
  exact ⟨rfl, rfl⟩
theorem made_any {w : World} {T S : Nat → Prop} {o N : Nat} {s : Lk.S} (h : LnkAt w T S o N s) (he : 1 ≤ s.ep) : Calls Tryd.prog 35 #[.pointer (some ⟨o, 0, none⟩)] w fun e w' => e = .returned (.bool true) ∧ w' = w := by
  obtain ⟨_, _, c2, _⟩ := h.cells
  have e1 : ((s.ep : Int) == 0) = false := by
    have : ¬ (s.ep : Int) = 0 := by omega
    simpa using this
  have e2 : ((s.ep : Int) != 0) = true := by simp [bne, e1]
  generalize s.ep = ep at *
  clear h he
  go_enter Tryd.func35, Tryd.ntmps35
  go_wp2
  go_ret
  simp [e2]

/-- slices.Clone of claims: of a block of its own. -/
theorem cclone_any {w : World} {T : Nat → Prop} {A : Option Addr} {l : List (Int × Nat)} {cap : Nat} (h : ClT w T A l cap) (hl : l.length ≤ 100000) :
    Calls Tryd.prog 64 #[.slice A l.length cap] w fun e w' => ∃ A' cap', e = .returned (.slice A' l.length cap') ∧ w'.ownsRow w.heap.size 138 2 (.slice A' l.length cap') l.length (csC l) ∧ Below w.heap.size w w' := by
  obtain ⟨i0, hi, hz0, hz1, hz2⟩ := info_parts Tryd.infoClaim
  have q34 : ∀ (w : World) (a : Option Addr) (n c n' c' : Nat), (binOp .eql 35 (.slice a n c) (.slice none n' c')).run Tryd.prog w = .ok (.bool a.isNone) w := fun w a n c n' c' => Lib.run_eql_slice_nil w _ _ a n c n' c' Tryd.underlying35
  cases A with
  | none =>
    obtain ⟨rfl, rfl⟩ := h.nil rfl
    clear h
    go_enter Tryd.func64, Tryd.ntmps64
    go_wp2
    go_ret
    exact ⟨_, _, rfl, World.ownsRow_nil _ _ _ _, Below.refl _ _⟩
  | some ad =>
    have H : Hid (∀ j u, (csC l)[j]? = some u → w.cell? (ad.add j) = some u) := by
      intro j u hu
      have hj : j < l.length * 2 := by
        rcases Nat.lt_or_ge j (l.length * 2) with h | h
        · exact h
        · rw [List.getElem?_eq_none (by rw [csC_len]; exact h)] at hu; cases hu
      obtain ⟨k, hk⟩ : ∃ k, j = k * 2 ∨ j = k * 2 + 1 := ⟨j / 2, by omega⟩
      obtain ⟨a', e1, h2, h3⟩ := h.at_ k (by omega)
      cases e1
      have hg := csC_get l k (by omega)
      rcases hk with rfl | rfl
      · rw [h2, ← hu, hg.1]
      · have e : (⟨(ad.add (k * 2)).block, (ad.add (k * 2)).off + 1, none⟩ : Addr) = ad.add (k * 2 + 1) := by
          unfold Addr.add
          by_cases h0 : k = 0
          · subst h0; simp
          · have h00 : ¬ k * 2 = 0 := by omega
            simp [h00]; omega
        rw [e] at h3
        rw [h3, ← hu, hg.2]
    have HB := Lib.hid h
    clear h
    have h1 := csC_one l
    have hlm : (csC l).length = l.length * 2 := csC_len l
    generalize csC l = xs at *
    generalize l.length = n at *
    go_enter Tryd.func64, Tryd.ntmps64
    go_wp2_with (at_builtin; refine wpList_append_own _ rfl _ _ 35 rfl w.heap.size 138 i0 (.agg #[.int .i64 0, .int .u32 0]) 2 16 Tryd.underlying35 hi hz0 hz1 hz2 rfl (by decide) _ _ _ rfl (World.ownsRow_made w #[] 0 (Nat.le_refl _) (Nat.zero_le _) (by simp)) ad n cap xs rfl ?qc1 ?qc2 ?qc3 ?qc4 ?qc5 ?qc6 ?_)
    case qc1 => exact hlm
    case qc2 =>
      intro j u hj
      exact Lib.cell?_alloc_some _ (H.out j u hj)
    case qc3 => exact h1
    case qc4 => unfold maxLen; omega
    case qc5 => omega
    case qc6 => simp
    intro v' w1 hown hgrow _
    go_wp2
    go_ret
    obtain ⟨A', cap', rfl⟩ : ∃ A' cap', v' = .slice A' n cap' := by
      rcases hown.2 with ⟨rfl, h0⟩ | ⟨g, cap, cur, rfl, _⟩
      · exact ⟨none, 0, by rw [show n = 0 by simpa using h0]⟩
      · exact ⟨some ⟨g, 0, none⟩, cap, by simp⟩
    exact ⟨A', cap', rfl, by simpa using hown, ((Below.refl _ w).alloc (Nat.le_refl _) _).grown hgrow (by simp) (by intro k hk; simp [Value.ownBlock] at hk; omega)⟩
/-- Nine cells. -/
theorem nine {w : World} {g : Nat} {a b c d e f i j k : Value} {t : TypeId} (h : w.heap[g]? = some (.cells #[a, b, c, d, e, f, i, j, k] t (0, 0))) :
    (w.cell? ⟨g, 0, none⟩ = some a ∧ w.cell? ⟨g, 1, none⟩ = some b ∧ w.cell? ⟨g, 2, none⟩ = some c ∧ w.cell? ⟨g, 3, none⟩ = some d ∧ w.cell? ⟨g, 4, none⟩ = some e ∧ w.cell? ⟨g, 5, none⟩ = some f ∧ w.cell? ⟨g, 6, none⟩ = some i ∧ w.cell? ⟨g, 7, none⟩ = some j ∧ w.cell? ⟨g, 8, none⟩ = some k) ∧ ∀ n, w.frozen? ⟨g, n, none⟩ = false :=
  ⟨⟨by rw [blk_cell h]; rfl, by rw [blk_cell h]; rfl, by rw [blk_cell h]; rfl, by rw [blk_cell h]; rfl, by rw [blk_cell h]; rfl, by rw [blk_cell h]; rfl, by rw [blk_cell h]; rfl, by rw [blk_cell h]; rfl, by rw [blk_cell h]; rfl⟩, fun n => blk_free h n⟩

set_option maxHeartbeats 1000000 in
/-- A message like another, its claims its own. -/
theorem mlike_any {w : World} {T : Nat → Prop} (m : Msg) {A : Option Addr} {cap : Nat} (h : ClT w T A m.claims cap) (hl : m.claims.length ≤ 100000) :
    Calls Tryd.prog 42 #[msgA m A m.claims.length cap] w fun e w' => ∃ A' cap', e = .returned (msgA m A' m.claims.length cap') ∧ w'.ownsRow w.heap.size 138 2 (.slice A' m.claims.length cap') m.claims.length (csC m.claims) ∧ Below w.heap.size w w' := by
  obtain ⟨P, hP⟩ : ∃ P : Ending → World → Prop, P = fun e w' => ∃ A' cap', e = .returned (msgA m A' m.claims.length cap') ∧ w'.ownsRow w.heap.size 138 2 (.slice A' m.claims.length cap') m.claims.length (csC m.claims) ∧ Below w.heap.size w w' := ⟨_, rfl⟩
  have HP : Hid (∀ A' cap' w', w'.ownsRow (w.heap.size + 2) 138 2 (.slice A' m.claims.length cap') m.claims.length (csC m.claims) → Below w.heap.size w w' → P (.returned (msgA m A' m.claims.length cap')) w') := by
    rw [hP]; intro A' cap' w' h1 h2; exact ⟨_, _, rfl, ⟨h1.1, h1.2.imp id (fun ⟨g, c, cur, e1, e2, r⟩ => ⟨g, c, cur, e1, by omega, r⟩)⟩, h2⟩
  rw [← hP]
  clear hP
  have HC : Hid (∀ t t' c c', Calls Tryd.prog 64 #[.slice A m.claims.length cap] ((w.alloc (.cells c t)).alloc (.cells c' t')) fun e w' => ∃ A' cap', e = .returned (.slice A' m.claims.length cap') ∧ Below (w.heap.size + 2) ((w.alloc (.cells c t)).alloc (.cells c' t')) w' ∧ w'.ownsRow (w.heap.size + 2) 138 2 (.slice A' m.claims.length cap') m.claims.length (csC m.claims)) := by
    intro t t' c c'
    refine (cclone_any (h.below (((Below.refl _ w).alloc (Nat.le_refl _) _).alloc (by simp) _)) hl).mono ?_
    rintro e w' ⟨A', cap', rfl, h1, h2⟩
    simp only [World.size_alloc] at h1 h2
    exact ⟨A', cap', rfl, h2, h1⟩
  clear h hl
  obtain ⟨x0, x1, x2, x3, x4, x5, x6, x7, x8⟩ := m
  simp only [msgA] at HC HP ⊢
  generalize csC x8 = xs at *
  generalize x8.length = L at *
  go_enter Tryd.func42, Tryd.ntmps42
  go_wp2_with fail
  refine (HC.out _ _ _ _).mono ?_
  rintro e w1 ⟨A', cap', rfl, hb1, hr1⟩
  obtain ⟨g1, g2, c2, hz⟩ : w1.heap[w.heap.size]? = some (.cells #[.int .i64 x0, .int .i64 x1, .int .u32 (x2 : Nat), .int .u64 (x3 : Nat), .int .i64 x4, .int .i64 x5, .int .i64 x6, .int .i64 x7, .slice A L cap] 37 (0, 0)) ∧ w1.heap[w.heap.size + 1]? = some (.cells #[.int .i64 0, .int .i64 0, .int .u32 0, .int .u64 0, .int .i64 0, .int .i64 0, .int .i64 0, .int .i64 0, .slice none 0 0] 37 (0, 0)) ∧ Below w.heap.size w w1 ∧ w.heap.size + 2 ≤ w1.heap.size := by
    refine ⟨?_, ?_, (((Below.refl _ w).alloc (Nat.le_refl _) _).alloc (by simp) _).trans (hb1.mono (by omega)), by simpa using hb1.size⟩
    · rw [hb1.block _ (by omega), Below.heap_alloc _ _ _ (by simp)]; exact World.alloc_heap_new w _
    · rw [hb1.block _ (by omega)]
      have := World.alloc_heap_new (w.alloc (.cells #[.int .i64 x0, .int .i64 x1, .int .u32 (x2 : Nat), .int .u64 (x3 : Nat), .int .i64 x4, .int .i64 x5, .int .i64 x6, .int .i64 x7, .slice A L cap] 37)) (.cells #[.int .i64 0, .int .i64 0, .int .u32 0, .int .u64 0, .int .i64 0, .int .i64 0, .int .i64 0, .int .i64 0, .slice none 0 0] 37)
      rw [World.size_alloc] at this
      exact this
  have G1 := Lib.hid (blk_set g1 8 (.slice A' L cap'))
  obtain ⟨⟨a0, a1, a2, a3, a4, a5, a6, a7, a8⟩, d0⟩ := nine g1
  have d8 := d0 8
  obtain ⟨⟨b0, b1, b2, b3, b4, b5, b6, b7, b8⟩, e0⟩ := nine g2
  have f0 := e0 0
  have f1 := e0 1
  have f2 := e0 2
  have f3 := e0 3
  have f4 := e0 4
  have f5 := e0 5
  have f6 := e0 6
  have f7 := e0 7
  have f8 := e0 8
  clear g1 g2 d0 e0
  go_wp2
  refine bodyPost_ret (v := .agg #[.int .i64 x0, .int .i64 x1, .int .u32 (x2 : Nat), .int .u64 (x3 : Nat), .int .i64 x4, .int .i64 x5, .int .i64 x6, .int .i64 x7, .slice A' L cap']) (by simp [results, Tryd.results42, go_sem, b0, b1, b2, b3, b4, b5, b6, b7, b8]) rfl (HP.out _ _ _ ?_ ?_)
  · iterate 10 refine ownsRow_setCell_below ?_ (by simp) _
    exact hr1
  · iterate 10 refine Below.setCell ?_ (by simp) _
    exact c2
end Go.Proofs.YtfgajjfcjlejmaaDoor
