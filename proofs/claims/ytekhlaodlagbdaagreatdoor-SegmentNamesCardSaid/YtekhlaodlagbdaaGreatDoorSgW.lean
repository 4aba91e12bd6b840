/-
  segment.Plan.along: an iterator over a segment's cells.
-/
import Derived.Test.YtekhlaodlagbdaaGreatDoorSgK
import Derived.Test.YtekhlaodlagbdaaGreatDoorSgI
import Derived.Sort.QuietIn
namespace Go.Proofs.YtekhlaodlagbdaaGreatDoor
set_option maxRecDepth 100000
set_option linter.unusedSimpArgs false
open Go Go.RowKit

theorem idx_first {l : List Nat} {a k : Nat} (hk : k < l.length) (he : l.getD k 0 = a) (hne : ∀ j, j < k → l.getD j 0 ≠ a) : l.idxOf a = k := by
  have hm : a ∈ l := by rw [← he, show l.getD k 0 = l[k] by simp [List.getD, hk]]; exact List.getElem_mem hk
  obtain ⟨h1, h2⟩ := Sg.idx_at hm
  rcases Nat.lt_trichotomy (l.idxOf a) k with h | h | h
  · exact (hne _ h h2).elim
  · exact h
  · exfalso
    have h3 : k < l.findIdx (· == a) := h
    have h4 := List.not_of_lt_findIdx h3
    have h5 : l[k] = a := by rw [← he]; simp [List.getD, hk]
    simp [h5] at h4
set_option maxHeartbeats 800000 in
theorem index_at {w : World} {a : Option Addr} {c : Nat} {l : List Nat} (h : ∀ j, j < l.length → ∃ g, a = some ⟨g, 0, none⟩ ∧ w.cell? ⟨g, j, none⟩ = some (.int .i64 ((l.getD j 0 : Nat) : Int))) {x : Nat} (hx : x ∈ l) (hn : l.length ≤ 100000) :
    Calls Tryz.prog 100 #[.slice a l.length c, .int .i64 (x : Int)] w fun e w' => e = .returned (.int .i64 ((l.idxOf x : Nat) : Int)) ∧ w' = w := by
  have HC := Lib.hid h
  obtain ⟨i1, i2⟩ := Sg.idx_at hx
  have HI : Hid (∀ k, k < l.length → l.getD k 0 = x → (∀ j, j < k → l.getD j 0 ≠ x) → l.idxOf x = k) := fun k hk he hne => idx_first hk he hne
  have HX : Hid (∀ k, k = l.length → (∀ j, j < k → l.getD j 0 ≠ x) → False) := by
    rintro k rfl hk
    exact hk _ i1 i2
  clear h hx i1 i2
  generalize l.idxOf x = r at *
  generalize l.length = n at *
  go_enter Tryz.func100, Tryz.ntmps100
  go_wp2
  go_loop [8] (fun i => ∃ k : Nat, k ≤ n ∧ i = .int .i64 k ∧ ∀ j, j < k → l.getD j 0 ≠ x) (fun i => n - (intOf i).toNat)
  case atStart => exact ⟨0, Nat.zero_le _, rfl, fun j hj => by omega⟩
  case round =>
    obtain ⟨k, hk, rfl, hne⟩ := hrel
    have HN := Lib.hid hne
    clear hne
    by_cases hlt : k < n
    · obtain ⟨g, rfl, hck⟩ := HC.out k hlt
      have HI2 := Lib.hid (HI.out k hlt)
      have HS : Hid (l.getD k 0 ≠ x → ∀ j, j < k + 1 → l.getD j 0 ≠ x) := by
        intro h j hj
        by_cases e : j = k
        · rw [e]; exact h
        · exact HN.out j (by omega)
      generalize l.getD k 0 = y at hck HI2 HS
      by_cases hxy : y = x
      · have hbb : ((x : Int) == (y : Int)) = true := by simp [hxy]
        have hr := HI2.out hxy HN.out
        go_wp2
        go_ret
        subst hr
        exact ⟨rfl, rfl⟩
      · have hbb : ((x : Int) == (y : Int)) = false := by
          have : ¬ (x : Int) = (y : Int) := by omega
          simpa using this
        go_wp2
        go_round
        case rel => exact ⟨k + 1, by omega, by go_num, HS.out hxy⟩
        case measure => simp [intOf]; omega
    · obtain rfl : k = n := by omega
      exact (HX.out k rfl HN.out).elim

/-- The map's edges as numbers. -/
def edgN (R C : Nat) (ms : List UInt8) (a b : Nat) : Bool := (nextZ R C ms (a : Int)).any (fun u => (u : Int) == (b : Int))

/-- segment.Plan.along's iterator, made. -/
def alongW (w : World) (p a : Nat) (d : Int) : World := ((w.alloc (.cells #[.pointer (some ⟨p, 0, none⟩)] 31)).alloc (.cells #[.int .i64 (a : Int)] 3)).alloc (.cells #[.int .i64 d] 3)
set_option maxHeartbeats 400000 in
theorem along_any (w : World) (p a : Nat) (d : Int) :
    Calls Tryz.prog 71 #[.pointer (some ⟨p, 0, none⟩), .int .i64 (a : Int), .int .i64 d] w fun e w' => e = .returned (.func (.func 99) #[] #[.pointer (some ⟨w.heap.size, 0, none⟩), .pointer (some ⟨w.heap.size + 1, 0, none⟩), .pointer (some ⟨w.heap.size + 1 + 1, 0, none⟩)]) ∧ w' = alongW w p a d := by
  go_enter Tryz.func71, Tryz.ntmps71
  go_wp2
  go_ret
  exact ⟨rfl, rfl⟩
theorem alongW_size (w : World) (p a : Nat) (d : Int) : (alongW w p a d).heap.size = w.heap.size + 3 := by simp [alongW]
theorem alongW_kept (w : World) (p a : Nat) (d : Int) : Kept (fun _ => False) w (alongW w p a d) := (((Kept.refl _ w).alloc _).alloc _).alloc _
theorem alongW_cells (w : World) (p a : Nat) (d : Int) : (alongW w p a d).cell? ⟨w.heap.size, 0, none⟩ = some (.pointer (some ⟨p, 0, none⟩)) ∧ (alongW w p a d).cell? ⟨w.heap.size + 1, 0, none⟩ = some (.int .i64 (a : Int)) ∧ (alongW w p a d).cell? ⟨w.heap.size + 1 + 1, 0, none⟩ = some (.int .i64 d) := by
  have k1 := (((Kept.refl (fun _ => False) (w.alloc (.cells #[.pointer (some ⟨p, 0, none⟩)] 31))).alloc (.cells #[.int .i64 (a : Int)] 3)).alloc (.cells #[.int .i64 d] 3))
  have k2 := ((Kept.refl (fun _ => False) ((w.alloc (.cells #[.pointer (some ⟨p, 0, none⟩)] 31)).alloc (.cells #[.int .i64 (a : Int)] 3))).alloc (.cells #[.int .i64 d] 3))
  refine ⟨k1.cell (p := ⟨w.heap.size, 0, none⟩) ?_ id, k2.cell (p := ⟨w.heap.size + 1, 0, none⟩) ?_ id, ?_⟩
  · rw [blk_cell (heap_alloc_new w _)]; rfl
  · have := heap_alloc_new (w.alloc (.cells #[.pointer (some ⟨p, 0, none⟩)] 31)) (.cells #[.int .i64 (a : Int)] 3)
    rw [World.size_alloc] at this
    rw [blk_cell this]; rfl
  · have := heap_alloc_new ((w.alloc (.cells #[.pointer (some ⟨p, 0, none⟩)] 31)).alloc (.cells #[.int .i64 (a : Int)] 3)) (.cells #[.int .i64 d] 3)
    rw [World.size_alloc, World.size_alloc] at this
    unfold alongW
    rw [blk_cell this]; rfl

/-- Where a segment's cells lie, as cells. -/
structure SegC (bm gm cm R C : Nat) (ms : List UInt8) (p bo g gl ncell cap cl a s : Nat) (l : List Nat) (w : World) : Prop where
  c0 : w.cell? ⟨p, 0, none⟩ = some (.pointer (some ⟨bm, 0, none⟩))
  c1 : w.cell? ⟨p, 1, none⟩ = some (.slice (some ⟨bo, 0, none⟩) ms.length ms.length)
  c2 : w.cell? ⟨p, 2, none⟩ = some (.slice (some ⟨g, 0, none⟩) ncell cap)
  ca : w.cell? ⟨bo, a, none⟩ = some (.int .i64 (s : Int))
  cs : w.cell? ⟨g, s, none⟩ = some (.slice (some ⟨gl, 0, none⟩) l.length cl)
  cl : ∀ j, j < l.length → w.cell? ⟨gl, j, none⟩ = some (.int .i64 ((l.getD j 0 : Nat) : Int))
  em : EM bm gm cm R C ms w
  done : DoneC bm w
theorem seg_cells {bm gm cm R C : Nat} {ms : List UInt8} {p : Nat} {st : Sg.Pl} {w : World} (h : PlanS bm gm cm R C ms p st w) {a s : Nat} (ha : a < ms.length) (hs : s < st.cells.length) (hof : st.of.getD a 0 = (s : Int)) (hl : 0 < (st.cells.getD s []).length) :
    ∃ bo g gl cap cl, ∀ W, Below w.heap.size w W → SegC bm gm cm R C ms p bo g gl st.cells.length cap cl a s (st.cells.getD s []) W := by
  obtain ⟨bo, Bs, V, vc, vk, h⟩ := h
  obtain ⟨g, cap, hvc, hgx⟩ : ∃ g c, vc = .slice (some ⟨g, 0, none⟩) st.cells.length c ∧ w.cell? ⟨g, s, none⟩ = some (V s) := by
    rcases h.pl.rc.2 with ⟨_, h1⟩ | ⟨g, cap, cur, rfl, h1, _⟩
    · omega
    · refine ⟨g, cap, rfl, ?_⟩
      rw [h.pl.rc.cellAt s (by omega)]
      simp [hs]
  obtain ⟨hr, _⟩ := h.pl.rows s hs
  obtain ⟨gl, cl, hvs⟩ : ∃ g c, V s = .slice (some ⟨g, 0, none⟩) (st.cells.getD s []).length c := by
    rcases hr.2 with ⟨_, h1⟩ | ⟨g, cap, cur, e, _⟩
    · omega
    · exact ⟨g, cap, e⟩
  refine ⟨bo, g, gl, cap, cl, fun W hb => ?_⟩
  have hk : Kept (fun _ => False) w W := Kept.of_below hb (Nat.le_refl _)
  rw [hvs] at hr hgx
  have hc := int_cells hr
  have hS := h.still hb
  exact ⟨by rw [blk_cell hS.pl.blk]; rfl, by rw [blk_cell hS.pl.blk]; rfl, by rw [blk_cell hS.pl.blk, hvc]; rfl, by rw [blk_cell hS.pl.of, ← hof]; exact of_cell _ (by rw [h.pl.len]; omega), hk.cell hgx id, fun j hj => hk.cell (hc j hj) id, hS.em, hS.done⟩

set_option maxHeartbeats 4000000 in
theorem along_tells (n : Nat) (hn : 1 ≤ n) {bm gm cm R C p : Nat} {ms : List UInt8} {wa w0 : World} (hb : Below wa.heap.size wa w0) {bo g gl ncell cap cl bp bf bs q a s e : Nat} {l : List Nat} {d : Int} (hq : wa.heap.size ≤ q)
    (hS : ∀ W, Below wa.heap.size wa W → SegC bm gm cm R C ms p bo g gl ncell cap cl a s l W)
    (h1 : w0.cell? ⟨bp, 0, none⟩ = some (.pointer (some ⟨p, 0, none⟩))) (h2 : w0.cell? ⟨bf, 0, none⟩ = some (.int .i64 (a : Int))) (h3 : w0.cell? ⟨bs, 0, none⟩ = some (.int .i64 d)) (n1 : bp ≠ q) (n2 : bf ≠ q) (n3 : bs ≠ q)
    (ha : a < ms.length) (hs : s < ncell) (ham : a ∈ l) (hll : l.length ≤ 1024) (hde : (d = 1 ∧ e = 1) ∨ (d = -1 ∧ e = l.length - 1)) :
    Tells n Tryz.prog 99 #[.pointer (some ⟨bp, 0, none⟩), .pointer (some ⟨bf, 0, none⟩), .pointer (some ⟨bs, 0, none⟩)] (fun x : Nat × Nat => #[.int .i64 (x.1 : Int), .int .i64 (x.2 : Int)]) (fun A B => Below A.heap.size A B) (Kept (fun k => k = q ∨ w0.heap.size ≤ k))
      (fun xs _ => xs = Sg.alF (edgN R C ms) l e (l.idxOf a)) 1024 w0 := by
  intro y J W hW hJ hY h0
  obtain ⟨i1, i2⟩ := Sg.idx_at ham
  have hA := Sg.al_all (edgN R C ms) e (l.idxOf a) (l := l) (by omega)
  have HT : Hid (Sg.alF (edgN R C ms) l e (l.idxOf a) = (List.range (Sg.alM (edgN R C ms) l e (l.idxOf a) (l.length - 1) 1)).map fun k => (k, l.getD (Sg.posI l.length e (l.idxOf a) k) 0)) := rfl
  generalize Sg.alM (edgN R C ms) l e (l.idxOf a) (l.length - 1) 1 = m at *
  have HA := Lib.hid hA
  have hm0 := hA.pos
  have hml := hA.le
  have HY' := Lib.hid hY
  have HJ' := Lib.hid hJ
  obtain ⟨X, hXd⟩ : ∃ X : Nat → Prop, X = fun k => k = q ∨ w0.heap.size ≤ k := ⟨_, rfl⟩
  have kW : Kept X w0 W := Kept.of_below hW (Nat.le_refl _)
  have HSk : Hid (∀ V, Kept X w0 V → Below wa.heap.size wa V) := fun V hV => hb.trans (hV.below (fun k h => by
    rw [hXd] at h
    have := hb.size
    rcases h with h | h <;> omega) hb.size)
  have HSS : Hid (∀ V, Kept X w0 V → SegC bm gm cm R C ms p bo g gl ncell cap cl a s l V) := fun V hV => hS V (HSk.out V hV)
  have hlt : ∀ {b v}, w0.cell? ⟨b, 0, none⟩ = some v → b ≠ q → ¬ X b := fun {b v} hv hn h => by
    rw [hXd] at h
    have h9 : b < w0.heap.size := World.block_lt_of_cell? w0 _ hv
    rcases h with h | h
    · exact hn h
    · omega
  have HC : Hid (∀ V, Kept X w0 V → V.cell? ⟨bp, 0, none⟩ = some (.pointer (some ⟨p, 0, none⟩)) ∧ V.cell? ⟨bf, 0, none⟩ = some (.int .i64 (a : Int)) ∧ V.cell? ⟨bs, 0, none⟩ = some (.int .i64 d)) := fun V hV => ⟨hV.cell h1 (hlt h1 n1), hV.cell h2 (hlt h2 n2), hV.cell h3 (hlt h3 n3)⟩
  obtain ⟨L, hL⟩ : ∃ L, L = l.length := ⟨_, rfl⟩
  have HL := Lib.hid hL
  have HPos : Hid (∀ k, Sg.posI L e (l.idxOf a) k < L) := fun k => Sg.pos_lt (by omega)
  have HNx : Hid (∀ k, IntKind.i64.wrap (((Sg.posI L e (l.idxOf a) k : Nat) : Int) + d) = ((Sg.posI L e (l.idxOf a) k : Nat) : Int) + d ∧ IntKind.i64.wrap (((Sg.posI L e (l.idxOf a) k : Nat) : Int) + d + (L : Int)) = ((Sg.posI L e (l.idxOf a) k : Nat) : Int) + d + (L : Int) ∧
      (((Sg.posI L e (l.idxOf a) k : Nat) : Int) + d + (L : Int)).tmod (L : Int) = ((Sg.posI L e (l.idxOf a) (k + 1) : Nat) : Int)) := fun k => by
    have hp := HPos.out k
    have hon := Sg.pos_on L e (l.idxOf a) k
    generalize Sg.posI L e (l.idxOf a) k = x at *
    rw [hon]
    refine ⟨IntWalk.i64_in _ (by omega), IntWalk.i64_in _ (by omega), ?_⟩
    rw [Int.tmod_eq_emod_of_nonneg (by omega)]
    rcases hde with ⟨rfl, rfl⟩ | ⟨rfl, rfl⟩
    · push_cast
      rw [Int.add_emod_right]
    · rw [show (x : Int) + -1 + (L : Int) = ((x + (L - 1) : Nat) : Int) by omega]
      rw [hL]
      rfl
  have HP0 : Hid (Sg.posI L e (l.idxOf a) 0 = l.idxOf a) := Sg.pos_zero (by omega)
  have HQ : Hid (∀ V, Kept X w0 V → Calls Tryz.prog 100 #[.slice (some ⟨gl, 0, none⟩) L cl, .int .i64 (a : Int)] V fun e w' => e = .returned (.int .i64 ((l.idxOf a : Nat) : Int)) ∧ w' = V) := fun V hV => by
    rw [hL]
    exact index_at (fun j hj => ⟨gl, rfl, (HSS.out V hV).cl j hj⟩) ham (by omega)
  have HEd : Hid (∀ V, Kept X w0 V → ∀ x z v, edgN R C ms x z = v → Calls Tryz.prog 35 #[.pointer (some ⟨bm, 0, none⟩), .int .i64 (x : Int), .int .i64 (z : Int)] V fun e w' => e = .returned (.bool v) ∧ w' = V) := fun V hV x z v hv => by
    have := edge_d (x : Int) (z : Int) (HSS.out V hV).em (HSS.out V hV).done
    unfold edgN at hv
    rw [hv] at this
    exact this.mono fun _ _ h => ⟨h.1, h.2.symm⟩
  -- what a round begins with
  obtain ⟨I, hI⟩ : ∃ I : Nat → World → Prop, I = fun k V => Kept X w0 V ∧ J ((List.range k).map fun k => (k, l.getD (Sg.posI L e (l.idxOf a) k) 0)) V := ⟨_, rfl⟩
  have HII := Lib.hid hI
  have HI0 : Hid (∀ V, Below W.heap.size W V → I 0 V) := fun V hV => by
    rw [hI]
    exact ⟨kW.trans (Kept.of_below (X := X) hV (Nat.le_refl _)) (fun _ _ h => h), hJ _ _ _ (by simpa using h0) hV⟩
  rw [← hXd] at hY
  have HYy : Hid (∀ pre x W1, J pre W1 → pre.length < 1024 → YieldAt Fence.wide (n - 1) Tryz.prog y #[.int .i64 (x.1 : Int), .int .i64 (x.2 : Int)] W1 fun e W' => e = .returned (.bool true) ∧ J (pre ++ [x]) W' ∧ Kept X W1 W') := hY
  have hSW := HSS.out W kW
  have f1 := hSW.c1
  have f2 := hSW.c2
  have f3 := hSW.ca
  have f4 := hSW.cs
  rw [← hL] at f4
  obtain ⟨f5, f6, _⟩ := HC.out W kW
  have q1 : (a : Int) < (ms.length : Int) := by omega
  have q2 : (0 : Int) ≤ (a : Int) := by omega
  have q3 : (s : Int) < (ncell : Int) := by omega
  have q4 : (0 : Int) ≤ (s : Int) := by omega
  have hml' : m ≤ L := by omega
  have hL' : L ≤ 1024 := by omega
  have HKW := Lib.hid kW
  rw [← hL] at HT
  clear hb hS h1 h2 h3 n1 n2 n3 hde hA hY hJ HY' hW hI hXd hlt hSW i1 i2 h0 ham ha hs hq hml hll kW hL
  generalize l.idxOf a = i0 at *
  generalize ms.length = N at *
  refine callsIn_of_wp Tryz.func99 rfl trivial ?_ rfl
  simp only [Tryz.ntmps99, List.size_toArray, List.length_cons, List.length_nil, Nat.reduceAdd, Nat.reduceSub, Array.replicate_succ, Array.replicate_zero, List.push_toArray, List.append_toArray, List.nil_append, List.cons_append]
  gi_wp2_with fail
  gi_quiet (fail)
  have hW1 : Below W.heap.size W (W.drewN nq) := ⟨rfl, rfl, rfl, Nat.le_refl _, fun _ _ => rfl⟩
  have HI1 := Lib.hid (HI0.out _ hW1)
  have HQ1 := Lib.hid (HQ.out _ (HKW.out.drewN nq))
  obtain ⟨_, g6, _⟩ := HC.out _ (HKW.out.drewN nq)
  clear HI0 f1 f2 f3 f4 f5 f6 hW1
  generalize W.drewN nq = W1 at *
  gi_wp2_with fail
  refine ⟨trivial, (callsIn_wide.2 HQ1.out).mono ?_⟩
  rintro e1 w1 ⟨rfl, rfl⟩
  clear HQ1 HQ HKW g6 q1 q2 q3 q4
  gi_wp2
  gi_loopw [6, 7, 8, 27] (fun t6 t7 t8 t27 wr => ∃ k : Nat, k ≤ m ∧ (k = m → m = L) ∧ t6 = .int .i64 ((Sg.posI L e i0 k : Nat) : Int) ∧ t27 = .int .i64 (k : Int) ∧ I k wr) (fun _ _ _ t27 _ => L - (intOf t27).toNat)
  case atStart => exact ⟨0, by omega, by omega, by rw [HP0.out], rfl, HI1.out⟩
  case round =>
    obtain ⟨k, hk, hkL, rfl, rfl, hi⟩ := hrel
    rename World => V
    rw [HII.out] at hi
    obtain ⟨hkp, hj⟩ := hi
    by_cases hkl : k < L
    · have hkm : k < m := by
        rcases Nat.lt_or_ge k m with h | h
        · exact h
        · obtain rfl : k = m := by omega
          have := hkL rfl
          omega
      have hsn : ((List.range (k + 1)).map fun k => (k, l.getD (Sg.posI L e i0 k) 0)) = ((List.range k).map fun k => (k, l.getD (Sg.posI L e i0 k) 0)) ++ [(k, l.getD (Sg.posI L e i0 k) 0)] := by rw [List.range_succ, List.map_append]; rfl
      have hYw := HYy.out _ (k, l.getD (Sg.posI L e i0 k) 0) V hj (by simp; omega)
      rw [← hsn] at hYw
      have HYw := Lib.hid hYw
      have hx := HPos.out k
      have hz := HPos.out (k + 1)
      obtain ⟨w1', w2', w3'⟩ := HNx.out k
      have d1 := (HSS.out V hkp).cl (Sg.posI L e i0 k) (by rw [← HL.out]; exact hx)
      have HCV : Hid (∀ V', Kept X V V' → V'.cell? ⟨bs, 0, none⟩ = some (.int .i64 d) ∧ V'.cell? ⟨bp, 0, none⟩ = some (.pointer (some ⟨p, 0, none⟩)) ∧ V'.cell? ⟨p, 0, none⟩ = some (.pointer (some ⟨bm, 0, none⟩)) ∧ V'.cell? ⟨gl, Sg.posI L e i0 k, none⟩ = some (.int .i64 ((l.getD (Sg.posI L e i0 k) 0 : Nat) : Int)) ∧ V'.cell? ⟨gl, Sg.posI L e i0 (k + 1), none⟩ = some (.int .i64 ((l.getD (Sg.posI L e i0 (k + 1)) 0 : Nat) : Int)) ∧
          (∀ n v, edgN R C ms (l.getD (Sg.posI L e i0 k) 0) (l.getD (Sg.posI L e i0 (k + 1)) 0) = v → Calls Tryz.prog 35 #[.pointer (some ⟨bm, 0, none⟩), .int .i64 ((l.getD (Sg.posI L e i0 k) 0 : Nat) : Int), .int .i64 ((l.getD (Sg.posI L e i0 (k + 1)) 0 : Nat) : Int)] (V'.drewN n) fun e w' => e = .returned (.bool v) ∧ w' = V'.drewN n)) := fun V' hV' => by
        have hk' : Kept X w0 V' := hkp.trans hV' (fun _ _ h => h)
        obtain ⟨a1, _, a3⟩ := HC.out V' hk'
        have a4 := HSS.out V' hk'
        exact ⟨a3, a1, a4.c0, a4.cl _ (by rw [← HL.out]; exact hx), a4.cl _ (by rw [← HL.out]; exact hz), fun n v hv => HEd.out _ (hk'.drewN n) _ _ v hv⟩
      have HNt : Hid (∀ V' n, Kept X V V' → J ((List.range (k + 1)).map fun k => (k, l.getD (Sg.posI L e i0 k) 0)) V' → edgN R C ms (l.getD (Sg.posI L e i0 k) 0) (l.getD (Sg.posI L e i0 (k + 1)) 0) = true → ∃ k' : Nat, k' ≤ m ∧ (k' = m → m = L) ∧ Value.int .i64 ((Sg.posI L e i0 (k + 1) : Nat) : Int) = .int .i64 ((Sg.posI L e i0 k' : Nat) : Int) ∧ Value.int .i64 ((k : Int) + 1) = .int .i64 (k' : Int) ∧ I k' (V'.drewN n)) := fun V' n h1 h2 h3 => by
        refine ⟨k + 1, by omega, fun h => ?_, rfl, by go_num, ?_⟩
        · have hst := HA.out.stop
          rw [← HL.out] at hst
          rcases hst with h4 | h4
          · exact h4
          · rw [← h, Nat.add_sub_cancel, h3] at h4
            cases h4
        · rw [HII.out]
          exact ⟨(hkp.trans h1 (fun _ _ h => h)).drewN n, HJ'.out _ _ _ h2 ⟨rfl, rfl, rfl, Nat.le_refl _, fun _ _ => rfl⟩⟩
      have HEnd : Hid (∀ V' n, J ((List.range (k + 1)).map fun k => (k, l.getD (Sg.posI L e i0 k) 0)) V' → edgN R C ms (l.getD (Sg.posI L e i0 k) 0) (l.getD (Sg.posI L e i0 (k + 1)) 0) = false → (∃ v, Ending.returned (.tuple #[]) = .returned v) ∧ J (Sg.alF (edgN R C ms) l e i0) (V'.drewN n)) := fun V' n h1 h2 => by
        refine ⟨⟨_, rfl⟩, ?_⟩
        have hm1 : m = k + 1 := by
          rcases Nat.lt_or_ge (k + 1) m with h | h
          · have := HA.out.go k h
            rw [← HL.out, h2] at this
            cases this
          · omega
        rw [HT.out, hm1]
        exact HJ'.out _ _ _ h1 ⟨rfl, rfl, rfl, Nat.le_refl _, fun _ _ => rfl⟩
      have q1 : (0 : Int) ≤ ((Sg.posI L e i0 k : Nat) : Int) := by omega
      have q2 : ((Sg.posI L e i0 k : Nat) : Int) < (L : Int) := by omega
      have q3 : (0 : Int) ≤ ((Sg.posI L e i0 (k + 1) : Nat) : Int) := by omega
      have q4 : ((Sg.posI L e i0 (k + 1) : Nat) : Int) < (L : Int) := by omega
      have q5 : ((L : Int) == 0) = false := by rw [beq_eq_false_iff_ne]; omega
      have q6 : (k : Int) < (L : Int) := by omega
      have q7 : IntKind.i64.wrap ((Sg.posI L e i0 (k + 1) : Nat) : Int) = ((Sg.posI L e i0 (k + 1) : Nat) : Int) := IntWalk.i64_in _ (by omega)
      clear hkp hj hsn hYw hx hz hkL HII
      generalize ((List.range (k + 1)).map fun k => (k, l.getD (Sg.posI L e i0 k) 0)) = told at *
      generalize Sg.posI L e i0 k = x at *
      generalize Sg.posI L e i0 (k + 1) = z at *
      generalize l.getD x 0 = cx at *
      generalize l.getD z 0 = cz at *
      obtain ⟨fn, tmps, assign, body, hrun, hR⟩ := HYw.out
      have HR2 := Lib.hid hR
      clear hR HYw
      gi_wp2
      refine HR2.out.mono ?_
      rintro e W' ⟨rfl, hJ', hK'⟩
      have HJW := Lib.hid hJ'
      obtain ⟨c1, c2, c3, c4, c5, hEe⟩ := HCV.out W' hK'
      have HEe := Lib.hid hEe
      have HNt' := Lib.hid (fun n => HNt.out W' n hK' hJ')
      have HEnd' := Lib.hid (fun n => HEnd.out W' n hJ')
      clear HCV HNt HEnd hEe hJ' hK' HR2 hrun
      gi_wp2
      cases hv : edgN R C ms cx cz with
      | true =>
        have HE1 := Lib.hid (fun n => HEe.out n _ hv)
        have HN1 := Lib.hid (fun n => HNt'.out n hv)
        clear HEe HNt' HEnd' hv
        refine wpIn_region_quiet_lit rfl (by kernel_rfl) (by kernel_rfl) ?_
        repeat (gi_big_quiet_step (fail))
        refine BigFrame.wpQuietIn_want (fun _ _ _ _ => trivial) rfl (fun K hK => ?_)
        gi_big_quiet_op
        apply Exists.intro
        refine ⟨fun _ => ?_, hK _ ?_⟩
        · (gi_at_call 35; with_reducible exact CallsIn.quiet_of_same (callsIn_wide.2 (HE1.out _)))
        clear hK K
        gi_big_quiet_step (fail)
        refine wpQuietIn_nil ?_
        intro _ hw'
        obtain ⟨nq, hw''⟩ := hw'
        subst hw''
        gi_wp2
        go_roundw
        case rel => exact HN1.out _
        case measure => simp [intOf]; omega
      | false =>
        have HE1 := Lib.hid (fun n => HEe.out n _ hv)
        have HN1 := Lib.hid (fun n => HEnd'.out n hv)
        clear HEe HNt' HEnd' hv
        refine wpIn_region_quiet_lit rfl (by kernel_rfl) (by kernel_rfl) ?_
        repeat (gi_big_quiet_step (fail))
        refine BigFrame.wpQuietIn_want (fun _ _ _ _ => trivial) rfl (fun K hK => ?_)
        gi_big_quiet_op
        apply Exists.intro
        refine ⟨fun _ => ?_, hK _ ?_⟩
        · (gi_at_call 35; with_reducible exact CallsIn.quiet_of_same (callsIn_wide.2 (HE1.out _)))
        clear hK K
        gi_big_quiet_step (fail)
        refine wpQuietIn_nil ?_
        intro _ hw'
        obtain ⟨nq, hw''⟩ := hw'
        subst hw''
        gi_wp2
        refine bodyPost_ret (results_none rfl _ _ _) rfl ⟨⟨_, rfl⟩, _, rfl, (HN1.out nq).2⟩
    · obtain rfl : k = m := by omega
      have HF : Hid ((∃ v, Ending.returned (.tuple #[]) = .returned v) ∧ J (Sg.alF (edgN R C ms) l e i0) V) := ⟨⟨_, rfl⟩, by rw [HT.out]; exact hj⟩
      have q6 : ¬ (k : Int) < (L : Int) := by omega
      clear hj hkp
      gi_wp2
      exact bodyPost_end (results_none rfl _ _ _) rfl HF.out
end Go.Proofs.YtekhlaodlagbdaaGreatDoor
