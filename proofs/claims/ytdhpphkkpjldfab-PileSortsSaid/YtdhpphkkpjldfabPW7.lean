/-
  The pile's Pop: its walk.
-/
import Derived.Test.YtdhpphkkpjldfabPW5
import Derived.Test.YtdhpphkkpjldfabHeap
import Derived.Test.YtdhpphkkpjldfabPW6
namespace Go.Proofs.Ytdhpphkkpjldfab
set_option maxRecDepth 100000
open Go Go.RowKit Pq

/-- A row cut at its end. -/
theorem row_cut {w : World} {base g cap n m size : Nat} {e : TypeId} {xs : List Value} (h : w.ownsRow base e size (.slice (some ⟨g, 0, none⟩) n cap) n xs) (hm : m ≤ n) : w.ownsRow base e size (.slice (some ⟨g, 0, none⟩) m cap) m (xs.take (m * size)) := by
  obtain ⟨h1, h2⟩ := h
  have hms : m * size ≤ n * size := Nat.mul_le_mul_right _ hm
  refine ⟨by rw [List.length_take, h1]; omega, ?_⟩
  rcases h2 with ⟨h, _⟩ | ⟨g', cap', cur, hv, hb, hg, hnc, hcm, hcs, ht⟩
  · cases h
  · cases hv
    refine .inr ⟨g, cap, cur, rfl, hb, hg, by omega, hcm, hcs, ?_⟩
    rw [← ht, List.take_take]
    congr 1
    omega

/-- The first item overwritten by the last one, the row cut by one. -/
theorem pop_mid {w : World} {b j g cap : Nat} {r : Option Nat} {l : List It} (hc : w.cell? ⟨b, j, none⟩ = some (.slice (some ⟨g, 0, none⟩) l.length cap)) (hf : w.frozen? ⟨b, j, none⟩ = false)
    (hr : (Value.slice (some ⟨g, 0, none⟩) l.length cap).ownBlock = r) (hn : r ≠ some b) (ho : w.ownsRow 0 32 3 (.slice (some ⟨g, 0, none⟩) l.length cap) l.length (csL l)) (h0 : 0 < l.length) {m : Nat} (hm : m = l.length - 1) :
    Pile ((put3 w g 0 (at_ l (l.length - 1))).setCell ⟨b, j, none⟩ (.slice (some ⟨g, 0, none⟩) m cap)) b j r (cutl l) ∧ Kp b j r w ((put3 w g 0 (at_ l (l.length - 1))).setCell ⟨b, j, none⟩ (.slice (some ⟨g, 0, none⟩) m cap)) := by
  subst hm
  have hgb : b ≠ g := by
    rintro rfl
    exact hn hr.symm
  have hg : Of b r g := .inr hr
  have h1 := put3_row ho h0 (at_ l (l.length - 1))
  rw [List.length_set] at h1
  have hK : Kept (Of b r) w (put3 w g 0 (at_ l (l.length - 1))) := put3_kept (Kept.refl _ _) hg _ _
  refine ⟨⟨.slice (some ⟨g, 0, none⟩) (l.length - 1) cap, World.cell?_setCell_same _ _ _ (by rw [put3_block hgb, hc]), ?_, hr, hn, ?_⟩, ⟨hK.setCell (p := ⟨b, j, none⟩) (.inl (.inl rfl)) _, fun o ho => ?_, fun o => ?_⟩⟩
  · rw [World.frozen?_setCell, put3_frozen hgb]; exact hf
  · rw [cutl_length]
    have h2 := row_cut h1 (m := l.length - 1) (by omega)
    rw [csL_take] at h2
    exact Kept.row ((Kept.refl (fun k => k = b) (put3 w g 0 (at_ l (l.length - 1)))).setCell (p := ⟨b, j, none⟩) (.inl rfl) _) h2 (fun k hk e => by simp [Value.ownBlock] at hk; omega)
  · rw [World.cell?_setCell_other _ _ _ _ (by intro e; cases e; exact ho rfl), put3_block hgb]
  · rw [World.frozen?_setCell, put3_frozen hgb]

theorem frz_a1 {w : World} {b j : Nat} (h : w.frozen? ⟨b, j, none⟩ = false) (hb : b < w.heap.size) : ∀ o, (w.alloc o).frozen? ⟨b, j, none⟩ = false := fun o => (World.frozen?_of_block (a := ⟨b, j, none⟩) (Below.heap_alloc w o b hb)).trans h

def PopPost (w : World) (b j : Nat) (r : Option Nat) (l : List It) (e : Ending) (w' : World) : Prop :=
  e = .returned (.tuple #[.agg #[.int .i64 (at_ l 0).c, .int .i64 (at_ l 0).t, .int .i64 (at_ l 0).i], .bool true]) ∧ ∃ l', Pile w' b j r l' ∧ Heap l' ∧ l'.Perm (cutl l) ∧ Kp b j r w w'

theorem put3_heap {w : World} {g k b : Nat} {x : It} (h : b ≠ g) : (put3 w g k x).heap[b]? = w.heap[b]? := by
  unfold put3
  rw [Below.heap_setCell _ _ _ _ h, Below.heap_setCell _ _ _ _ h, Below.heap_setCell _ _ _ _ h]

theorem pop_last {w w3 : World} {b j : Nat} {r : Option Nat} {l l' : List It} (hp : Pile w3 b j r l') (hh : Heap l') (hpm : l'.Perm (cutl l)) (hk : Kp b j r w w3) (hlt : ∀ k, Of b r k → k < w.heap.size) (x : It) (hx : at_ l 0 = x) :
    PopPost w b j r l (.returned (.tuple #[.agg #[.int .i64 x.c, .int .i64 x.t, .int .i64 x.i], .bool true])) (put3 w3 w.heap.size 0 x) := by
  subst hx
  have h1 : Kept (fun k => k = w.heap.size) w3 (put3 w3 w.heap.size 0 (at_ l 0)) := put3_kept (Kept.refl _ _) (X := fun k => k = w.heap.size) rfl _ _
  exact ⟨rfl, l', hp.kept h1 (fun k hk e => by have := hlt k hk; omega), hh, hpm, hk.trans (Kp.of_kept (r := some w.heap.size) h1 (by have := hlt b (.inl rfl); have := hk.kept.size; omega) (fun e => by have := hlt b (.inl rfl); omega) (fun k _ e => by rw [e])) (fun i hi e => by simp at e; omega)⟩

/-- Behind down: the two items' blocks, the pile. -/
structure PopMid (w w1 : World) (b j : Nat) (r : Option Nat) (l : List It) (x : It) (w3 : World) : Prop where
  b2 : w3.heap[w.heap.size]? = some (.cells #[.int .i64 0, .int .i64 0, .int .i64 0] 32 (0, 0))
  b4 : w3.heap[w1.heap.size]? = some (.cells #[.int .i64 x.c, .int .i64 x.t, .int .i64 x.i] 32 (0, 0))
  fin : PopPost w b j r l (.returned (.tuple #[.agg #[.int .i64 x.c, .int .i64 x.t, .int .i64 x.i], .bool true])) (put3 w3 w.heap.size 0 x)

theorem pop_down {w w1 : World} {b j g cap : Nat} {r : Option Nat} {l : List It} {x : It} (hh : Heap l) (h0 : 0 < l.length) (hl : l.length ≤ 10000) (hx : at_ l 0 = x) (hlt : ∀ k, Of b r k → k < w.heap.size)
    (hk1 : Kept (fun _ => False) w w1) (hs : w.heap.size < w1.heap.size) (hR : w1.heap[w.heap.size]? = some (.cells #[.int .i64 0, .int .i64 0, .int .i64 0] 32 (0, 0)))
    (hc : w1.cell? ⟨b, j, none⟩ = some (.slice (some ⟨g, 0, none⟩) l.length cap)) (hf : w1.frozen? ⟨b, j, none⟩ = false)
    (hr : (Value.slice (some ⟨g, 0, none⟩) l.length cap).ownBlock = r) (hn : r ≠ some b) (ho : w1.ownsRow 0 32 3 (.slice (some ⟨g, 0, none⟩) l.length cap) l.length (csL l)) :
    Calls Try.prog 23 #[.pointer (some ⟨b, j, none⟩), .int .i64 0] ((((put3 w1 g 0 (at_ l (l.length - 1))).setCell ⟨b, j, none⟩ (.slice (some ⟨g, 0, none⟩) (l.length - 1) cap)).alloc (.cells #[.int .i64 x.c, .int .i64 x.t, .int .i64 x.i] 32)).drew) fun e w' => e = .returned (.tuple #[]) ∧ PopMid w w1 b j r l x w' := by
  obtain ⟨hp, hk⟩ := pop_mid hc hf hr hn ho h0 rfl
  have hb : b < w.heap.size := hlt b (.inl rfl)
  have hg : g < w.heap.size := hlt g (.inr hr)
  have hsz := hk.kept.size
  generalize hW : (put3 w1 g 0 (at_ l (l.length - 1))).setCell ⟨b, j, none⟩ (.slice (some ⟨g, 0, none⟩) (l.length - 1) cap) = W at hp hk hsz ⊢
  have hWs : W.heap.size = w1.heap.size := by rw [← hW]; simp [put3, World.setCell]
  have h2 : W.heap[w.heap.size]? = some (.cells #[.int .i64 0, .int .i64 0, .int .i64 0] 32 (0, 0)) := by
    rw [hk.kept.block _ (by omega) (fun h => by have := hlt _ h; omega)]; exact hR
  have hpa : Pile ((W.alloc (.cells #[.int .i64 x.c, .int .i64 x.t, .int .i64 x.i] 32)).drew) b j r (cutl l) := (hp.kept ((Kept.refl (fun _ => False) W).alloc _) (fun _ _ => id)).drew
  refine (down_any hpa (by rw [cutl_length]; omega) (cutl_down hh h0)).mono ?_
  rintro e w3 ⟨he, l', hp3, hh3, hpm, hk3⟩
  have hka : Kp b j r w (W.alloc (.cells #[.int .i64 x.c, .int .i64 x.t, .int .i64 x.i] 32)).drew := (((Kp.of_kept (j := j) (r := r) hk1 hb id (fun _ _ h => h.elim)).trans hk (fun _ _ => id)).alloc hb _).drew
  refine ⟨he, ?_, ?_, ?_⟩
  · rw [hk3.block _ (by simp; omega) (fun h => by have := hlt _ (.inr h); omega)]
    show (W.alloc _).heap[w.heap.size]? = _
    rw [Below.heap_alloc _ _ _ (by omega)]; exact h2
  · rw [hk3.block _ (by simp; omega) (fun h => by have := hlt _ (.inr h); omega), ← hWs]
    exact heap_alloc_new W _
  · exact pop_last hp3 hh3 hpm (hka.trans (Kp.of_kept (r := r) hk3 (Nat.lt_of_lt_of_le hb hka.kept.size) (fun e => hn e.symm) (fun _ _ h => h)) (fun _ _ => id)) hlt x hx

set_option maxHeartbeats 1000000 in
theorem pop_some {w : World} {b j : Nat} {r : Option Nat} {l : List It} (h : Pile w b j r l) (hh : Heap l) (h0 : 0 < l.length) (hl : l.length ≤ 10000) :
    Calls Try.prog 11 #[.pointer (some ⟨b, j, none⟩)] w (PopPost w b j r l) := by
  have hal : ∀ o, Pile (w.alloc o) b j r l := fun o => h.kept ((Kept.refl (fun _ => False) w).alloc o) (fun _ _ => id)
  have HT : Hid (∀ o, Calls Try.prog 16 #[.pointer (some ⟨b, j, none⟩)] (w.alloc o) fun e w' => e = .returned (.tuple #[.agg #[.int .i64 (at_ l 0).c, .int .i64 (at_ l 0).t, .int .i64 (at_ l 0).i], .bool true]) ∧ Below (w.alloc o).heap.size (w.alloc o) w') := fun o => top_some (hal o) h0
  have HP := Lib.hid hal
  have HPw := Lib.hid h
  have HH := Lib.hid hh
  clear hal h hh
  go_enter Try.func11, Try.ntmps11
  go_wp2_with fail
  refine (HT.out _).mono ?_
  rintro e w1 ⟨rfl, hb1⟩
  have hk1 := Kept.of_below (X := fun _ => False) hb1 (Nat.le_refl _)
  have hp1 := (HP.out _).kept hk1 (fun _ _ => id)
  have hz1 : w.heap.size + 1 ≤ w1.heap.size := by have := hb1.size; simpa using this
  have hlt := HPw.out.lt
  have hbl := hlt b (.inl rfl)
  have hp2 : ∀ o, Pile (w1.alloc o) b j r l := fun o => hp1.kept ((Kept.refl (fun _ => False) w1).alloc o) (fun _ _ => id)
  have HR : Hid (w1.heap[w.heap.size]? = some (.cells #[.int .i64 0, .int .i64 0, .int .i64 0] 32 (0, 0))) := by
    show _ = _
    rw [hb1.block _ (by simp)]
    exact heap_alloc_new w _
  have HK1 := Lib.hid hk1
  have hv : ∃ g cap, (∀ o, (w1.alloc o).cell? ⟨b, j, none⟩ = some (.slice (some ⟨g, 0, none⟩) l.length cap)) ∧ w1.cell? ⟨b, j, none⟩ = some (.slice (some ⟨g, 0, none⟩) l.length cap) ∧ g ≠ b ∧ w1.frozen? ⟨b, j, none⟩ = false ∧ (∀ k, w1.frozen? ⟨g, k, none⟩ = false) ∧
      l.length ≤ cap ∧ (Value.slice (some ⟨g, 0, none⟩) l.length cap).ownBlock = r ∧ r ≠ some b ∧ w1.ownsRow 0 32 3 (.slice (some ⟨g, 0, none⟩) l.length cap) l.length (csL l) := by
    obtain ⟨v, hc, hf, hr, hn, ho⟩ := hp1
    obtain ⟨g, cap, rfl, hnc⟩ : ∃ g cap, v = .slice (some ⟨g, 0, none⟩) l.length cap ∧ l.length ≤ cap := by
      rcases ho.2 with ⟨rfl, h1⟩ | ⟨g, cap, cur, rfl, _, _, hnc, _⟩
      · omega
      · exact ⟨_, _, rfl, hnc⟩
    exact ⟨g, cap, cell_a1 hc, hc, (by rintro rfl; exact hn hr.symm), hf, fun k => ho.frozenAt k, hnc, hr, hn, ho⟩
  obtain ⟨g, cap, hca, hc1, hgb, hf1, hfg, hcap, hr, hn, ho⟩ := hv
  have hgl : g < w.heap.size := hlt g (.inr hr)
  have hk1w : Kept (fun _ => False) w w1 := ((Kept.refl (fun _ => False) w).alloc _).trans HK1.out (fun _ _ => id)
  have HD := Lib.hid (pop_down HH.out h0 hl rfl hlt hk1w (by omega) HR.out hc1 hf1 hr hn ho)
  unfold put3 at HD
  clear hk1w
  obtain ⟨a0, a1, a2⟩ := row_cells ho (k := l.length - 1) (by omega)
  obtain ⟨z0, z1, z2⟩ := row_cells ho (k := 0) h0
  have hbz : b < w1.heap.size := by omega
  have hgz : g < w1.heap.size := by omega
  have ca0 := cell_a1 a0
  have ca1 := cell_a1 a1
  have ca2 := cell_a1 a2
  have cz0 := cell_a1 z0
  have cz1 := cell_a1 z1
  have cz2 := cell_a1 z2
  clear ho hr hn hp1 hk1 hb1
  have HLast : Hid (at_ l (l.length - 1) = at_ l (l.length - 1)) := rfl
  generalize hx : at_ l 0 = x at *
  have HX := Lib.hid hx
  generalize hy : at_ l (l.length - 1) = y at *
  have HY := Lib.hid hy
  clear hx hy HLast
  obtain ⟨x0, x1, x2⟩ := x
  obtain ⟨y0, y1, y2⟩ := y
  simp only [Nat.zero_mul, Nat.zero_add] at *
  generalize hnn : l.length = n at *
  have HN := Lib.hid hnn
  clear hnn
  go_wp2
  go_region
  go_wp2_with fail
  refine HD.out.mono ?_
  rintro e w3 ⟨rfl, hm3⟩
  have q20 : w3.cell? ⟨w.heap.size, 0, none⟩ = some (.int .i64 0) := by rw [blk_cell hm3.b2]; rfl
  have q21 : w3.cell? ⟨w.heap.size, 1, none⟩ = some (.int .i64 0) := by rw [blk_cell hm3.b2]; rfl
  have q22 : w3.cell? ⟨w.heap.size, 2, none⟩ = some (.int .i64 0) := by rw [blk_cell hm3.b2]; rfl
  have q40 : w3.cell? ⟨w1.heap.size, 0, none⟩ = some (.int .i64 x0) := by rw [blk_cell hm3.b4]; rfl
  have q41 : w3.cell? ⟨w1.heap.size, 1, none⟩ = some (.int .i64 x1) := by rw [blk_cell hm3.b4]; rfl
  have q42 : w3.cell? ⟨w1.heap.size, 2, none⟩ = some (.int .i64 x2) := by rw [blk_cell hm3.b4]; rfl
  have qf : ∀ k, w3.frozen? ⟨w.heap.size, k, none⟩ = false := fun k => blk_free hm3.b2 k
  have HF := Lib.hid hm3.fin
  unfold put3 at HF
  have hne : w1.heap.size ≠ w.heap.size := by omega
  clear hm3 HD HP HPw HH HR HK1 HT hp2 a0 a1 a2 ca0 ca1 ca2 z0 z1 z2 cz0 cz1 cz2 hca hc1 hf1 hfg hgl hlt
  go_wp2
  exact bodyPost_ret (v := .tuple #[.agg #[.int .i64 x0, .int .i64 x1, .int .i64 x2], .bool true]) (by simp [results, Try.results11, go_sem, q20, q21, q22]) rfl HF.out
end Go.Proofs.Ytdhpphkkpjldfab
