/-
  The document's queue: All.
-/
import Derived.Test.YtnecmlkljijofaaSpq3
import Derived.Test.YtnecmlkljijofaaSpt
namespace Go.Proofs.Ytnecmlkljijofaa
set_option maxRecDepth 100000
set_option linter.unusedSimpArgs false
open Go Go.RowKit Sp
attribute [local go_sem] Oper.semAt_some

/-- The list laid out behind some rounds. -/
structure OutI (w : World) (m : List Wt) (j : Nat) (W : World) : Prop where
  out : ∃ O, Laid m O j ∧ W.ownsRow w.heap.size 40 3 (.slice (some ⟨w.heap.size, 0, none⟩) m.length m.length) m.length (csA O)
  bel : Below w.heap.size w W
theorem OutI.made {w : World} {m : List Wt} (hm : m.length ≤ 8) : OutI w m 0 (w.alloc (.cells (csA (List.replicate m.length w0)).toArray 40)) := by
  refine ⟨⟨List.replicate m.length w0, ⟨by simp, fun k hk => by omega⟩, ?_⟩, (Below.refl _ w).alloc (Nat.le_refl _) _⟩
  refine ⟨by rw [csA_length, List.length_replicate], .inr ⟨w.heap.size, m.length, _, rfl, Nat.le_refl _, World.alloc_heap_new w _, Nat.le_refl _, by unfold maxLen; omega, ?_, ?_⟩⟩
  · simp [csA_length]
  · rw [List.take_of_length_le]; simp [csA_length]
theorem OutI.below {w W W' : World} {m : List Wt} {j : Nat} (h : OutI w m j W) (hb : Below W.heap.size W W') : OutI w m j W' := by
  obtain ⟨O, h1, h2⟩ := h.out
  exact ⟨⟨O, h1, Kept.row (still_of hb) h2 (fun _ _ => id)⟩, h.bel.trans (hb.mono h.bel.size)⟩
theorem OutI.free {w W : World} {m : List Wt} {j : Nat} (h : OutI w m j W) (i : Nat) : W.frozen? ⟨w.heap.size, i, none⟩ = false := by
  obtain ⟨O, h1, h2⟩ := h.out
  exact h2.frozenAt i
theorem OutI.cells {w W : World} {m : List Wt} {j : Nat} (h : OutI w m j W) {i : Nat} (hi : i < m.length) : ∃ u0 u1 u2, W.cell? ⟨w.heap.size, i * 3, none⟩ = some u0 ∧ W.cell? ⟨w.heap.size, i * 3 + 1, none⟩ = some u1 ∧ W.cell? ⟨w.heap.size, i * 3 + 2, none⟩ = some u2 := by
  obtain ⟨O, h1, h2⟩ := h.out
  have hl : (csA O).length = m.length * 3 := by rw [csA_length, h1.1]
  refine ⟨_, _, _, (h2.cellAt (i * 3) (by omega)).trans (List.getElem?_eq_getElem (by omega)), (h2.cellAt (i * 3 + 1) (by omega)).trans (List.getElem?_eq_getElem (by omega)), (h2.cellAt (i * 3 + 2) (by omega)).trans (List.getElem?_eq_getElem (by omega))⟩
theorem OutI.step {w W : World} {l m : List Wt} {j : Nat} (h : OutI w m j W) (hr : Rep l m) (hj : j < m.length) :
    OutI w m (j + 1) (((W.setCell ⟨w.heap.size, rank m (m.getD j w0) * 3, none⟩ (.int .i64 (m.getD j w0).r)).setCell ⟨w.heap.size, rank m (m.getD j w0) * 3 + 1, none⟩ (.int .u64 (m.getD j w0).s)).setCell ⟨w.heap.size, rank m (m.getD j w0) * 3 + 2, none⟩ (.int .i64 (m.getD j w0).p)) := by
  obtain ⟨O, h1, h2⟩ := h.out
  have hmem : m.getD j w0 ∈ m := by simp [List.getD, hj]
  have hrk : rank m (m.getD j w0) < O.length := by rw [h1.1, hr.len]; exact (hr.rank hmem).1
  refine ⟨⟨_, h1.step hr hj, ?_⟩, ?_⟩
  · rw [← h1.1] at h2 ⊢
    have := row_set (base := w.heap.size) h2 hrk (m.getD j w0)
    exact this
  · have hk : Kept (fun k => k = w.heap.size) W (((W.setCell ⟨w.heap.size, rank m (m.getD j w0) * 3, none⟩ (.int .i64 (m.getD j w0).r)).setCell ⟨w.heap.size, rank m (m.getD j w0) * 3 + 1, none⟩ (.int .u64 (m.getD j w0).s)).setCell ⟨w.heap.size, rank m (m.getD j w0) * 3 + 2, none⟩ (.int .i64 (m.getD j w0).p)) :=
      (((Kept.refl (fun k => k = w.heap.size) W).setCell (p := ⟨w.heap.size, _, none⟩) (.inl rfl) _).setCell (p := ⟨w.heap.size, _, none⟩) (.inl rfl) _).setCell (p := ⟨w.heap.size, _, none⟩) (.inl rfl) _
    exact h.bel.trans (hk.below (fun k hk => by omega) h.bel.size)
theorem OutI.done {w W : World} {l m : List Wt} (h : OutI w m m.length W) (hr : Rep l m) : IsW W (.slice (some ⟨w.heap.size, 0, none⟩) m.length m.length) l ∧ Below w.heap.size w W := by
  obtain ⟨O, h1, h2⟩ := h.out
  have e := h1.all hr
  subst e
  rw [hr.len] at h2 ⊢
  exact ⟨IsW.of_row h2, h.bel⟩

set_option maxHeartbeats 4000000 in
theorem rall_any {w : World} {b : Nat} {v : Value} {l m : List Wt} (h : RQ w b v m) (hr : Rep l m) :
    Calls Try.prog 20 #[.pointer (some ⟨b, 0, none⟩)] w fun e w' => ∃ v', e = .returned v' ∧ IsW w' v' l ∧ (∀ k, v'.ownBlock = some k → w.heap.size ≤ k) ∧ Below w.heap.size w w' := by
  have hm : m.length ≤ 8 := by rw [hr.len]; exact hr.ok.len
  obtain ⟨P, hP⟩ : ∃ P : Ending → World → Prop, P = fun e w' => ∃ v', e = .returned v' ∧ IsW w' v' l ∧ (∀ k, v'.ownBlock = some k → w.heap.size ≤ k) ∧ Below w.heap.size w w' := ⟨_, rfl⟩
  have HEnd : Hid (∀ W, OutI w m m.length W → P (.returned (.slice (some ⟨w.heap.size, 0, none⟩) m.length m.length)) W) := by
    rw [hP]
    intro W hW
    obtain ⟨h1, h2⟩ := hW.done hr
    exact ⟨_, rfl, h1, fun k hk => by simp [Value.ownBlock] at hk; omega, h2⟩
  rw [← hP]
  clear hP
  have hmk := makeWts_run m.length (by omega) w
  rw [made_w _ hm] at hmk
  have HO0 := Lib.hid (OutI.made (w := w) hm)
  have HStep : Hid (∀ j W, OutI w m j W → j < m.length → rank m (m.getD j w0) < m.length ∧ (∃ u0 u1 u2, W.cell? ⟨w.heap.size, rank m (m.getD j w0) * 3, none⟩ = some u0 ∧ W.cell? ⟨w.heap.size, rank m (m.getD j w0) * 3 + 1, none⟩ = some u1 ∧ W.cell? ⟨w.heap.size, rank m (m.getD j w0) * 3 + 2, none⟩ = some u2) ∧ OutI w m (j + 1) (((W.setCell ⟨w.heap.size, rank m (m.getD j w0) * 3, none⟩ (.int .i64 (m.getD j w0).r)).setCell ⟨w.heap.size, rank m (m.getD j w0) * 3 + 1, none⟩ (.int .u64 (m.getD j w0).s)).setCell ⟨w.heap.size, rank m (m.getD j w0) * 3 + 2, none⟩ (.int .i64 (m.getD j w0).p))) := by
    intro j W hW hj
    have hrk : rank m (m.getD j w0) < m.length := by
      have hmem : m.getD j w0 ∈ m := by simp [List.getD, hj]
      rw [hr.len]; exact (hr.rank hmem).1
    exact ⟨hrk, hW.cells hrk, hW.step hr hj⟩
  have HTk : Hid (∀ q, q < m.length → ∀ y, ((m.take (q + 1)).filter (fun x => fore x y)).length = ((m.take q).filter (fun x => fore x y)).length + (if fore (m.getD q w0) y then 1 else 0)) := fun q hq y => rank_take hq y
  have HTA : Hid (∀ y, ((m.take m.length).filter (fun x => fore x y)).length = rank m y) := fun y => by rw [List.take_length]; rfl
  have HT0 : Hid (∀ y, ((m.take 0).filter (fun x => fore x y)).length = 0) := fun y => rfl
  have HTle : Hid (∀ q y, ((m.take q).filter (fun x => fore x y)).length ≤ 8) := fun q y => by
    have h1 := List.length_filter_le (fun x => fore x y) (m.take q)
    rw [List.length_take] at h1; omega
  obtain ⟨A, cap, rfl, hc⟩ := h.isW
  have HCell : Hid (∀ W, Below w.heap.size w W → W.cell? ⟨b, 0, none⟩ = some (.slice A m.length cap) ∧ ∀ i, i < m.length → ∃ g, A = some ⟨g, 0, none⟩ ∧ W.cell? ⟨g, i * 3, none⟩ = some (.int .i64 (m.getD i w0).r) ∧ W.cell? ⟨g, i * 3 + 1, none⟩ = some (.int .u64 (m.getD i w0).s) ∧ W.cell? ⟨g, i * 3 + 2, none⟩ = some (.int .i64 (m.getD i w0).p)) := by
    intro W hW
    have s := still_of hW
    refine ⟨(h.still s).cell.1, fun i hi => ?_⟩
    obtain ⟨g, e, c0, c1, c2⟩ := hc i hi
    exact ⟨g, e, s.cell c0 id, s.cell c1 id, s.cell c2 id⟩
  have hq0 := h.cell.1
  obtain ⟨W0, hW0⟩ : ∃ W0, w.alloc (.cells (csA (List.replicate m.length w0)).toArray 40) = W0 := ⟨_, rfl⟩
  rw [hW0] at hmk HO0
  clear h hr hc hW0
  obtain ⟨n, hn⟩ : ∃ n, n = m.length := ⟨_, rfl⟩
  rw [← hn] at hmk HEnd HStep HTk HTA HCell hq0 hm
  clear hn
  go_enter Try.func20, Try.ntmps20
  go_wp2_with fail
  clear hmk hq0
  go_loopw [4] (fun u wr => ∃ j : Nat, j ≤ n ∧ u = .int .i64 (j : Int) ∧ OutI w m j wr) (fun u _ => n - (intOf u).toNat)
  case atStart => exact ⟨0, Nat.zero_le _, rfl, HO0.out⟩
  case round =>
    obtain ⟨j, hj, rfl, hO⟩ := hrel
    obtain ⟨q0, hcs⟩ := HCell.out wr hO.bel
    by_cases hlt : j < n
    · have HO := Lib.hid hO
      have HJ := Lib.hid hlt
      have j0 : (0 : Int) ≤ (j : Int) := by omega
      have j1 : (j : Int) < (n : Int) := by omega
      have xj : IntKind.i64.wrap ((j : Int) + 1) = (j : Int) + 1 := IntWalk.i64_in _ (by omega)
      obtain ⟨y, hy⟩ : ∃ y, y = m.getD j w0 := ⟨_, rfl⟩
      have HY := Lib.hid hy
      clear hO hj hcs hy
      go_wp2_with fail
      have HB0 : Hid (Below wr.heap.size wr wr) := Below.refl _ _
      go_loopw [6, 5] (fun u v wq => ∃ q c : Nat, q ≤ n ∧ u = .int .i64 (q : Int) ∧ v = .int .i64 (c : Int) ∧ c = ((m.take q).filter (fun x => fore x y)).length ∧ Below wr.heap.size wr wq) (fun u _ _ => n - (intOf u).toNat)
      case atStart => exact ⟨0, 0, Nat.zero_le _, rfl, rfl, (HT0.out y).symm, HB0.out⟩
      case round =>
        rename World => wq
        obtain ⟨q, c, hq, rfl, rfl, hcc, hbq⟩ := hrel
        obtain ⟨q0, hcs⟩ := HCell.out wq (HO.out.bel.trans (hbq.mono HO.out.bel.size))
        by_cases hlt2 : q < n
        · have hbd : Below w.heap.size w wq.drew := by
            have h := HO.out.bel.trans (hbq.mono HO.out.bel.size)
            exact ⟨h.os, h.tape, h.output, h.size, h.block⟩
          obtain ⟨q0', hcs'⟩ := HCell.out wq.drew hbd
          obtain ⟨g, rfl, a0, a1, a2⟩ := hcs' q hlt2
          obtain ⟨g', eg, d0, d1, d2⟩ := hcs' j HJ.out
          cases eg
          rw [← HY.out] at d0 d1 d2
          have HC := Lib.hid (fun W => rahead_any W (m.getD q w0) y)
          have HK : Hid (c + (if fore (m.getD q w0) y then 1 else 0) = ((m.take (q + 1)).filter (fun x => fore x y)).length) := by show _ = _; rw [HTk.out q hlt2 y, hcc]
          have HJ2 := Lib.hid hlt2
          have HB := Lib.hid hbq
          have hc8 : c ≤ 8 := by rw [hcc]; exact HTle.out q y
          have k0 : (0 : Int) ≤ (q : Int) := by omega
          have k1 : (q : Int) < (n : Int) := by omega
          have xq : IntKind.i64.wrap ((q : Int) + 1) = (q : Int) + 1 := IntWalk.i64_in _ (by omega)
          have xc : IntKind.i64.wrap ((c : Int) + 1) = (c : Int) + 1 := IntWalk.i64_in _ (by omega)
          have hd0 : Below wq.heap.size wq wq.drew := ⟨rfl, rfl, rfl, Nat.le_refl _, fun _ _ => rfl⟩
          obtain ⟨f, hf⟩ : ∃ f, f = fore (m.getD q w0) y := ⟨_, rfl⟩
          rw [← hf] at HK HC
          clear hcs hcs' hcc hbq hq hf hbd
          generalize m.getD q w0 = x at *
          obtain ⟨x0, x1, x2⟩ := x
          obtain ⟨y0, y1, y2⟩ := y
          simp only [wv] at HC a0 a1 a2 d0 d1 d2
          have HSC : Hid (∀ W9, Below wq.heap.size wq W9 → W9.cell? ⟨b, 0, none⟩ = some (.slice (some ⟨g, 0, none⟩) n cap) ∧ (W9.cell? ⟨g, q * 3, none⟩ = some (.int .i64 x0) ∧ W9.cell? ⟨g, q * 3 + 1, none⟩ = some (.int .u64 x1) ∧ W9.cell? ⟨g, q * 3 + 2, none⟩ = some (.int .i64 x2)) ∧ (W9.cell? ⟨g, j * 3, none⟩ = some (.int .i64 y0) ∧ W9.cell? ⟨g, j * 3 + 1, none⟩ = some (.int .u64 y1) ∧ W9.cell? ⟨g, j * 3 + 2, none⟩ = some (.int .i64 y2))) := by
            intro W9 hW9
            have s := still_of hW9
            exact ⟨s.cell (w := wq) q0 id, ⟨s.cell (w := wq) a0 id, s.cell (w := wq) a1 id, s.cell (w := wq) a2 id⟩, ⟨s.cell (w := wq) d0 id, s.cell (w := wq) d1 id, s.cell (w := wq) d2 id⟩⟩
          go_wp2_with fail
          go_region_held3 (fun W => Below wq.heap.size wq W ∧ W.cell? ⟨b, 0, none⟩ = some (.slice (some ⟨g, 0, none⟩) n cap) ∧ (W.cell? ⟨g, q * 3, none⟩ = some (.int .i64 x0) ∧ W.cell? ⟨g, q * 3 + 1, none⟩ = some (.int .u64 x1) ∧ W.cell? ⟨g, q * 3 + 2, none⟩ = some (.int .i64 x2)) ∧ (W.cell? ⟨g, j * 3, none⟩ = some (.int .i64 y0) ∧ W.cell? ⟨g, j * 3 + 1, none⟩ = some (.int .u64 y1) ∧ W.cell? ⟨g, j * 3 + 2, none⟩ = some (.int .i64 y2))) (first | exact ⟨hd0, q0', ⟨a0, a1, a2⟩, ⟨d0, d1, d2⟩⟩ | exact ⟨hb9, HSC.out _ hb9⟩) (first | (go_at_call 28; (with_reducible refine (HC.out wq.drew).mono ?_); rintro e w9 ⟨rfl, hb9', _⟩; have hb9 : Below wq.heap.size wq w9 := ⟨hb9'.os, hb9'.tape, hb9'.output, hb9'.size, hb9'.block⟩))
          have HB9 := Lib.hid (HB.out.trans (hb9.mono HB.out.size))
          cases f
          · go_wp2
            go_roundw
            case rel => exact ⟨q + 1, c, HJ2.out, by go_num, rfl, HK.out, HB9.out⟩
            case measure => have := HJ2.out; simp [intOf]; omega
          · go_wp2
            go_roundw
            case rel => exact ⟨q + 1, c + 1, HJ2.out, by go_num, by go_num, HK.out, HB9.out⟩
            case measure => have := HJ2.out; simp [intOf]; omega
        · obtain rfl : q = n := by omega
          have hcr : c = rank m y := by rw [hcc, HTA.out]
          obtain ⟨hrk, hus, hst⟩ := HStep.out j wq (HO.out.below hbq) HJ.out
          obtain ⟨g, rfl, d0, d1, d2⟩ := hcs j HJ.out
          rw [← HY.out] at d0 d1 d2 hrk hst hus
          rw [← hcr] at hrk hst hus
          obtain ⟨u0, u1, u2, z0, z1, z2⟩ := hus
          have f0 := (HO.out.below hbq).free (c * 3)
          have f1 := (HO.out.below hbq).free (c * 3 + 1)
          have f2 := (HO.out.below hbq).free (c * 3 + 2)
          have HS := Lib.hid hst
          have c0 : (0 : Int) ≤ (c : Int) := by omega
          have c1 : (c : Int) < (q : Int) := by omega
          clear hcs hbq hcc hcr hst hrk
          obtain ⟨y0, y1, y2⟩ := y
          simp only at d0 d1 d2 HS
          go_wp2
          go_roundw
          case rel => exact ⟨j + 1, HJ.out, by go_num, HS.out⟩
          case measure => have := HJ.out; simp [intOf]; omega
    · obtain rfl : j = n := by omega
      have HF := Lib.hid (HEnd.out wr hO)
      clear hO hcs
      go_wp2
      exact HF.out
end Go.Proofs.Ytnecmlkljijofaa
