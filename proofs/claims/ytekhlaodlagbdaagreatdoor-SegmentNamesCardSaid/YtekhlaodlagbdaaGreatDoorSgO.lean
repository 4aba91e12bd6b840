/-
  segment.ordered: its closure, which ranges over a row.
-/
import Derived.Test.YtekhlaodlagbdaaGreatDoorSgR
import Derived.Maps.OwnIn
namespace Go.Proofs.YtekhlaodlagbdaaGreatDoor
set_option maxRecDepth 100000
set_option linter.unusedSimpArgs false
open Go Go.RowKit
attribute [local go_sem] Oper.semAt_some

theorem KpQ.grown {F q : Nat} {X : Nat → Prop} {A0 A B : World} {row : Option Nat} (h : KpQ F X q A0 A) (hg : A.grownBy B row) (hF : F ≤ A0.heap.size) (hq : q < F) (hr : ∀ r, row = some r → F ≤ r ∧ ∃ o : Obj, A.heap[r]? = some o ∧ o.isCells = false) : KpQ F X q A0 B := by
  have hqA : q < A.heap.size := Nat.lt_of_lt_of_le (by omega) h.size
  have hqb : B.heap[q]? = A.heap[q]? := hg.block q hqA (fun e => by have := (hr q e.symm).1; omega)
  refine h.trans ⟨hg.os, hg.tape, hg.output, hg.size, fun k hk _ => hg.block k (Nat.lt_of_lt_of_le (by omega) h.size) (fun e => by have := (hr k e.symm).1; omega), fun k o hk hc _ => ?_, fun k hk => .inl ((pq_still hqb k).1 hk), fun hl k hk => Nat.lt_of_lt_of_le (hl k ((pq_still hqb k).1 hk)) hg.size⟩
  refine (hg.block k (blk_lt hk) (fun e => ?_)).trans hk
  obtain ⟨_, o', ho', hc'⟩ := hr k e.symm
  rw [hk] at ho'
  cases ho'
  rw [hc] at hc'
  cases hc'

/-- segment.row's iterator, made. -/
def rowW (w : World) (bm a s : Nat) : World := ((w.alloc (.cells #[.pointer (some ⟨bm, 0, none⟩)] 23)).alloc (.cells #[.int .i64 (a : Int)] 3)).alloc (.cells #[.int .i64 (s : Int)] 3)
set_option maxHeartbeats 400000 in
theorem row_any (w : World) (bm a s : Nat) :
    Calls Tryz.prog 88 #[.pointer (some ⟨bm, 0, none⟩), .int .i64 (a : Int), .int .i64 (s : Int)] w fun e w' => e = .returned (.func (.func 113) #[] #[.pointer (some ⟨w.heap.size + 1, 0, none⟩), .pointer (some ⟨w.heap.size + 1 + 1, 0, none⟩), .pointer (some ⟨w.heap.size, 0, none⟩)]) ∧ w' = rowW w bm a s := by
  go_enter Tryz.func88, Tryz.ntmps88
  go_wp2
  go_ret
  exact ⟨rfl, rfl⟩
theorem rowW_size (w : World) (bm a s : Nat) : (rowW w bm a s).heap.size = w.heap.size + 3 := by simp [rowW]
theorem rowW_kept (w : World) (bm a s : Nat) : Kept (fun _ => False) w (rowW w bm a s) := (((Kept.refl _ w).alloc _).alloc _).alloc _
theorem rowW_cells (w : World) (bm a s : Nat) : (rowW w bm a s).cell? ⟨w.heap.size, 0, none⟩ = some (.pointer (some ⟨bm, 0, none⟩)) ∧ (rowW w bm a s).cell? ⟨w.heap.size + 1, 0, none⟩ = some (.int .i64 (a : Int)) ∧ (rowW w bm a s).cell? ⟨w.heap.size + 1 + 1, 0, none⟩ = some (.int .i64 (s : Int)) := by
  have k1 := (((Kept.refl (fun _ => False) (w.alloc (.cells #[.pointer (some ⟨bm, 0, none⟩)] 23))).alloc (.cells #[.int .i64 (a : Int)] 3)).alloc (.cells #[.int .i64 (s : Int)] 3))
  have k2 := ((Kept.refl (fun _ => False) ((w.alloc (.cells #[.pointer (some ⟨bm, 0, none⟩)] 23)).alloc (.cells #[.int .i64 (a : Int)] 3))).alloc (.cells #[.int .i64 (s : Int)] 3))
  refine ⟨k1.cell (p := ⟨w.heap.size, 0, none⟩) ?_ id, k2.cell (p := ⟨w.heap.size + 1, 0, none⟩) ?_ id, ?_⟩
  · rw [blk_cell (heap_alloc_new w _)]; rfl
  · have := heap_alloc_new (w.alloc (.cells #[.pointer (some ⟨bm, 0, none⟩)] 23)) (.cells #[.int .i64 (a : Int)] 3)
    rw [World.size_alloc] at this
    rw [blk_cell this]; rfl
  · have := heap_alloc_new ((w.alloc (.cells #[.pointer (some ⟨bm, 0, none⟩)] 23)).alloc (.cells #[.int .i64 (a : Int)] 3)) (.cells #[.int .i64 (s : Int)] 3)
    rw [World.size_alloc, World.size_alloc] at this
    unfold rowW
    rw [blk_cell this]; rfl

/-- The list behind some cells of the row. -/
structure PutI (B : Nat) (v0 : Value) (l : List Nat) (F : Nat) (X : Nat → Prop) (q : Nat) (W0 : World) (pre : List Nat) (W : World) : Prop where
  own : ∃ v', W.heap[q]? = some (.cells #[v'] 36 (0, 0)) ∧ W.ownsRow B 3 1 v' (l ++ pre).length ((l ++ pre).map natV) ∧ (v'.ownBlock = v0.ownBlock ∨ ∀ k, v'.ownBlock = some k → F ≤ k)
  kp : KpQ F X q W0 W
section
variable {B F q : Nat} {v0 : Value} {l : List Nat} {X : Nat → Prop} {W0 : World}
theorem PutI.from (hF : F = W0.heap.size) (hq : q < F) (_ : True) : OwnFrom F (PutI B v0 l F X q W0) := by
  rintro pre W W' row ⟨⟨v', h1, h2, h3⟩, h4⟩ hg hr
  have hqb : W'.heap[q]? = W.heap[q]? := hg.block q (blk_lt h1) (fun e => by have := (hr q e.symm).1; omega)
  refine ⟨⟨v', hqb.trans h1, ?_, h3⟩, h4.grown hg (by omega) hq hr⟩
  refine h2.kept hg ?_
  rcases h2.2 with ⟨rfl, _⟩ | ⟨g', cap, cur, rfl, _, hgg, _⟩
  · exact .inl rfl
  · refine .inr (fun e => ?_)
    obtain ⟨_, o, ho, hc⟩ := hr g' (e.symm)
    rw [hgg] at ho
    cases ho
    cases hc
theorem PutI.take (hq : q < F) {pre : List Nat} {A C : World} (h : PutI B v0 l F X q W0 pre A) (hb : Below A.heap.size A C) (hF : F ≤ A.heap.size) : PutI B v0 l F X q W0 pre C := by
  obtain ⟨⟨v', h1, h2, h3⟩, h4⟩ := h
  have hk : Kept (fun _ => False) A C := Kept.of_below hb (Nat.le_refl _)
  exact ⟨⟨v', (hk.block q (by omega) id).trans h1, hk.row h2 (fun _ _ => id), h3⟩, h4.trans (KpQ.of_kept hk hF (by omega) (fun _ => id))⟩
/-- One more cell. -/
theorem put_round {pre : List Nat} {x : Nat} {W W2 : World} {v v' : Value} {o : Obj} {a : Act} (hF : F = W0.heap.size) (hq : q < F) (hqX : X q) (hX : ∀ k, v0.ownBlock = some k → X k)
    (h1 : W.heap[q]? = some (.cells #[v] 36 (0, 0))) (h2 : W.ownsRow B 3 1 v (l ++ pre).length ((l ++ pre).map natV)) (h3 : v.ownBlock = v0.ownBlock ∨ ∀ k, v.ownBlock = some k → F ≤ k) (h4 : KpQ F X q W0 W)
    (hg : (W.alloc o).grownBy W2 v.ownBlock) (ho : W2.ownsRow B 3 1 v' ((l ++ pre).length + 1) ((l ++ pre).map natV ++ [natV x])) (hv : v'.ownBlock = v.ownBlock ∨ v'.ownBlock = some (W.alloc o).heap.size) :
    (W2.cell? ⟨q, 0, none⟩ = some v ∧ W2.frozen? ⟨q, 0, none⟩ = false) ∧ roundEnd F (KpQ F X q) (PutI B v0 l F X q W0) (pre ++ [x]) W .normal a (W2.setCell ⟨q, 0, none⟩ v') := by
  have hne : ∀ k, v.ownBlock = some k → k ≠ q ∧ ∃ c f, W.heap[k]? = some (.cells c 3 f) := by
    intro k e
    rcases h2.2 with ⟨rfl, _⟩ | ⟨g', cap, cur, rfl, _, hgg, _⟩
    · cases e
    · have : g' = k := by simpa [Value.ownBlock] using e
      subst this
      refine ⟨fun e2 => ?_, _, _, hgg⟩
      subst e2
      rw [h1] at hgg
      injection hgg with hgg
      injection hgg with _ h _
      exact absurd h (by decide)
  have hqW : q < W.heap.size := blk_lt h1
  have hFW : F ≤ W.heap.size := by rw [hF]; exact h4.size
  have K1 : Kept (fun k => v.ownBlock = some k) W W2 := ((Kept.refl _ W).alloc o).grown hg (fun k e => .inl e)
  have b2 : W2.heap[q]? = some (.cells #[v] 36 (0, 0)) := (K1.block q hqW (fun e => (hne q e).1 rfl)).trans h1
  have KX : Kept (fun k => k = q ∨ v.ownBlock = some k) W (W2.setCell ⟨q, 0, none⟩ v') := (K1.mono (fun _ _ h => .inr h)).setCell (p := ⟨q, 0, none⟩) (.inl (.inl rfl)) _
  have hs3 : W2.heap.size ≤ (W2.setCell ⟨q, 0, none⟩ v').heap.size := by simp
  have b3 : (W2.setCell ⟨q, 0, none⟩ v').heap[q]? = some (.cells #[v'] 36 (0, 0)) := by rw [blk_set b2]; rfl
  have hv'lt : ∀ k, v'.ownBlock = some k → k < W2.heap.size := fun k e => (ho.lt k e).2
  have hpq : ∀ k, PQ q (W2.setCell ⟨q, 0, none⟩ v') k → k = q ∨ v'.ownBlock = some k := by
    rintro k (e | ⟨u, hu, e⟩)
    · exact .inl e
    · rw [blk_cell b3] at hu
      have : v' = u := by simpa using hu
      exact .inr (this ▸ e)
  have hpqW : ∀ k, v.ownBlock = some k → PQ q W k := fun k e => .inr ⟨v, by rw [blk_cell h1]; rfl, e⟩
  refine ⟨⟨by rw [blk_cell b2]; rfl, blk_free b2 0⟩, ⟨KX.size, ?_⟩, ⟨KX.os, KX.tape, KX.output, KX.size, fun k hk hx => ?_, fun k ob hk hc hn => ?_, fun k hk => ?_, fun hl k hk => ?_⟩, ⟨⟨v', b3, ?_, ?_⟩, ?_⟩⟩
  · intro k ob hk hob hc
    refine (KX.block k (blk_lt hob) ?_).trans hob
    rintro (e | e)
    · omega
    · obtain ⟨_, c, f, h5⟩ := hne k e
      rw [h5] at hob
      cases hob
      cases hc
  · refine KX.block k (by omega) ?_
    rintro (e | e)
    · exact hx (e ▸ hqX)
    · rcases h3 with h | h
      · exact hx (hX k (h ▸ e))
      · have := h k e; omega
  · refine (KX.block k (blk_lt hk) ?_).trans hk
    rintro (e | e)
    · exact hn (.inl e)
    · exact hn (hpqW k e)
  · rcases hpq k hk with e | e
    · exact .inl (.inl e)
    · rcases hv with h | h
      · exact .inl (hpqW k (h ▸ e))
      · rw [h] at e
        injection e with e
        right
        rw [← e]
        simp
  · rcases hpq k hk with e | e
    · have := KX.size; omega
    · have := hv'lt k e; omega
  · have e : (l ++ (pre ++ [x])).map natV = (l ++ pre).map natV ++ [natV x] := by simp
    have e2 : (l ++ (pre ++ [x])).length = (l ++ pre).length + 1 := by simp; omega
    rw [e, e2]
    refine Kept.row ((Kept.refl (fun k => k = q) W2).setCell (p := ⟨q, 0, none⟩) (.inl rfl) _) ho (fun k hk e => ?_)
    rcases hv with h | h
    · exact (hne k (h ▸ hk)).1 e
    · rw [h] at hk
      injection hk with hk
      have : (W.alloc o).heap.size = W.heap.size + 1 := by simp
      omega
  · rcases hv with h | h
    · rw [h]; exact h3
    · right
      intro k e
      rw [h] at e
      injection e with e
      have : (W.alloc o).heap.size = W.heap.size + 1 := by simp
      omega
  · refine h4.trans ⟨KX.os, KX.tape, KX.output, KX.size, fun k hk hx => ?_, fun k ob hk hc hn => ?_, fun k hk => ?_, fun hl k hk => ?_⟩
    · refine KX.block k (by omega) ?_
      rintro (e | e)
      · exact hx (e ▸ hqX)
      · rcases h3 with h | h
        · exact hx (hX k (h ▸ e))
        · have := h k e; omega
    · refine (KX.block k (blk_lt hk) ?_).trans hk
      rintro (e | e)
      · exact hn (.inl e)
      · exact hn (hpqW k e)
    · rcases hpq k hk with e | e
      · exact .inl (.inl e)
      · rcases hv with h | h
        · exact .inl (hpqW k (h ▸ e))
        · rw [h] at e
          injection e with e
          right
          rw [← e]
          simp
    · rcases hpq k hk with e | e
      · have := KX.size; omega
      · have := hv'lt k e; omega
end

/-- What the closure leaves. -/
def PutP (w : World) (B q : Nat) (l : List Nat) (e : Ending) (w' : World) : Prop :=
  e = .returned (.tuple #[]) ∧ ∃ v', w'.heap[q]? = some (.cells #[v'] 36 (0, 0)) ∧ w'.ownsRow B 3 1 v' l.length (l.map natV) ∧ Below B w w'

set_option maxHeartbeats 2000000 in
theorem put_any {bm gm cm R C : Nat} {ms : List UInt8} {w : World} (hE : EM bm gm cm R C ms w) (hd : DoneC bm w) {bx bl q a s m B : Nat} {v : Value} {l : List Nat}
    (c1 : w.cell? ⟨bx, 0, none⟩ = some (.pointer (some ⟨bm, 0, none⟩))) (c2 : w.cell? ⟨bl, 0, none⟩ = some (.int .i64 (a : Int))) (c3 : w.heap[q]? = some (.cells #[v] 36 (0, 0))) (ho : w.ownsRow B 3 1 v l.length (l.map natV))
    (hT : ∀ k, TS bm gm w k → k < B) (hq : B ≤ q) (hB : B ≤ w.heap.size) (ha : a < ms.length) (hr : Sg.Row (jnF R C ms) a s m) (hl : l.length ≤ 10000) :
    Calls Tryz.prog 87 #[.int .i64 (s : Int), .pointer (some ⟨bx, 0, none⟩), .pointer (some ⟨bl, 0, none⟩), .pointer (some ⟨q, 0, none⟩)] w (PutP w B q (l ++ (List.range' 1 m).map (Sg.wlk (jnF R C ms) a s))) := by
  obtain ⟨i0, hi, hz0, hz1, hz2⟩ := info_parts Tryz.infoInt
  have hlen := hE.len
  have hqw : q < w.heap.size := blk_lt c3
  have HRw := Lib.hid (row_any w bm a s)
  refine (callsIn_wide (n := 9)).1 ?_
  refine callsIn_of_wp_marks Tryz.func87 rfl trivial ?_ rfl
  simp only [Tryz.ntmps87, List.size_toArray, List.length_cons, List.length_nil, Nat.reduceAdd, Nat.reduceSub, Array.replicate_succ, Array.replicate_zero, List.push_toArray, List.append_toArray, List.nil_append, List.cons_append]
  gi_wp2_with fail
  refine ⟨trivial, (callsIn_wide.2 HRw.out).mono ?_⟩
  rintro e W0 ⟨rfl, hW0⟩
  have hz : W0.heap.size = w.heap.size + 3 := by rw [hW0]; exact rowW_size w bm a s
  have hk0 : Kept (fun _ => False) w W0 := by rw [hW0]; exact rowW_kept w bm a s
  obtain ⟨d1, d2, d3⟩ := rowW_cells w bm a s
  rw [← hW0] at d1 d2 d3
  clear hW0
  gi_wp2_with fail
  have hE0 := hE.keptX hk0 (fun _ _ => id)
  have hd0 := hd.kept hk0 id
  have b3 := (hk0.block q hqw id).trans c3
  have ho0 := hk0.row ho (fun _ _ => id)
  have hownq : ∀ k, v.ownBlock = some k → B ≤ k ∧ k < w.heap.size := fun k e => ho.lt k e
  have hPQ : ∀ k, PQ q W0 k → k = q ∨ v.ownBlock = some k := by
    rintro k (e | ⟨u, hu, e⟩)
    · exact .inl e
    · rw [blk_cell b3] at hu
      have : v = u := by simpa using hu
      exact .inr (this ▸ e)
  have hq0 : q < W0.heap.size := by omega
  obtain ⟨X, hXd⟩ : ∃ X : Nat → Prop, X = fun k => k = q ∨ v.ownBlock = some k := ⟨_, rfl⟩
  have hXq : X q := by rw [hXd]; exact .inl rfl
  have hXo : ∀ k, v.ownBlock = some k → X k := fun k e => by rw [hXd]; exact .inr e
  have hXlt : ∀ k, X k → B ≤ k ∧ k < w.heap.size := fun k h => by
    rw [hXd] at h
    rcases h with rfl | h
    · exact ⟨hq, hqw⟩
    · exact hownq k h
  have hTells := row_tells (9 - 1) (by omega) hE0.1 hd0 (bc := w.heap.size + 1) (bw := w.heap.size + 1 + 1) (bx := w.heap.size) hq0 (fun k hk => by
    rcases hPQ k hk with e | e
    · omega
    · have := hownq k e; omega) d2 d3 d1 (X := X) (fun k hk hx => by have h1 := hT k (hE0.2 k hk); have h2 := hXlt k hx; omega) (fun h => by have := hXlt _ h; omega) (fun h => by have := hXlt _ h; omega) (fun h => by have := hXlt _ h; omega) ha hr
  obtain ⟨row, hrow⟩ : ∃ row, row = (List.range' 1 m).map (Sg.wlk (jnF R C ms) a s) := ⟨_, rfl⟩
  have h00 : PutI B v l W0.heap.size X q W0 [] W0 := ⟨⟨v, b3, by rw [List.append_nil]; exact ho0, .inl rfl⟩, KpQ.refl _ _ _ _⟩
  rw [← hrow] at hTells ⊢
  clear hrow
  refine range_state (by omega) (gf := 113) (lb := #[.pointer (some ⟨w.heap.size + 1, 0, none⟩), .pointer (some ⟨w.heap.size + 1 + 1, 0, none⟩), .pointer (some ⟨w.heap.size, 0, none⟩)]) rfl (enters_of Tryz.func113 (by kernel_rfl) rfl)
    (encs := fun x : Nat => #[.int .i64 (x : Int)]) (fun _ => rfl) hTells (Below.refl _ _)
    (fun A C ht => ⟨ht.size, fun k o _ ho hc => (ht.block k (blk_lt ho)).trans ho⟩) (fun h k => h.trans k)
    (fun W l' o o' hl' h1 h2 => KpQ.putObj W o' h1 h2 hl' (by omega))
    (PutI B v l W0.heap.size X q W0) (PutI.from rfl hq0 trivial) (fun xs A C h ht => h.take hq0 ht h.kp.size) (fun xs A C row h _ _ => h) h00
    (fun x a' _ => a' = { tmps := #[.int .i64 (s : Int), .pointer (some ⟨bx, 0, none⟩), .pointer (some ⟨bl, 0, none⟩), .pointer (some ⟨q, 0, none⟩), undef, .int .i64 (x : Int), .pointer (some ⟨bm, 0, none⟩), .int .i64 (a : Int), .int .i64 (s : Int), .func (.func 113) #[] #[.pointer (some ⟨w.heap.size + 1, 0, none⟩), .pointer (some ⟨w.heap.size + 1 + 1, 0, none⟩), .pointer (some ⟨w.heap.size, 0, none⟩)], .int .i64 (x : Int), undef, undef, undef, undef], defers := [] })
    (fun x a' _ A C row h _ _ => h) ?assign ?body ?done
  case assign =>
    intro l' pre x W K hI hK
    gi_wp2
    exact hK _ _ (KeepsFrom.refl _ _) (KpQ.refl _ _ _ _) hI rfl
  case body =>
    rintro l' pre x a' W hl' ⟨⟨v1, h1, h2, h3⟩, h4⟩ rfl hlen
    have c5 : W.cell? ⟨q, 0, none⟩ = some v1 := by rw [blk_cell h1]; rfl
    obtain ⟨N, hN⟩ : ∃ N, N = (l ++ pre).length := ⟨_, rfl⟩
    have hNb : N ≤ 20000 := by rw [hN, List.length_append]; omega
    have hWs : B ≤ W.heap.size := by have := h4.size; omega
    have HV : Hid (W.ownsRow B 3 1 v1 N ((l ++ pre).map natV)) := by show World.ownsRow _ _ _ _ _ _ _; rw [hN]; exact h2
    have HN : Hid (∀ W2 v', (W.alloc (.cells #[.int .i64 (x : Int)] 3)).grownBy W2 v1.ownBlock → W2.ownsRow B 3 1 v' (N + 1) ((l ++ pre).map natV ++ [natV x]) → (v'.ownBlock = v1.ownBlock ∨ v'.ownBlock = some (W.alloc (.cells #[.int .i64 (x : Int)] 3)).heap.size) →
        (W2.cell? ⟨q, 0, none⟩ = some v1 ∧ W2.frozen? ⟨q, 0, none⟩ = false) ∧ roundEnd W0.heap.size (KpQ W0.heap.size X q) (PutI B v l W0.heap.size X q W0) (pre ++ [x]) W .normal { tmps := #[], defers := [] } (W2.setCell ⟨q, 0, none⟩ v')) := by
      intro W2 v' hg ho' hv'
      rw [hN] at ho'
      exact put_round rfl hq0 hXq hXo h1 h2 h3 h4 hg ho' hv'
    have HNe := Lib.hid (World.news_of_block (heap_alloc_new W (.cells #[.int .i64 (x : Int)] 3)))
    clear h1 h2 h3 h4 hN hlen hz hXd hTells h00 hE0 hd0 hPQ hXlt hownq hq0 hXq hXo hl'
    gi_wp2_with (gi_at_builtin; refine wpListIn_append_own_at _ rfl _ _ 36 rfl B 3 i0 (.int .i64 0) 1 8 Tryz.underlying36 hi hz0 hz1 hz2 rfl (by decide) _ N _ rfl (HV.out.alloc _) ⟨W.heap.size, 0, none⟩ 1 1 [natV x] rfl rfl HNe.out (by intro u hu; simp at hu; subst hu; rfl) (by unfold maxLen; omega) (by omega) (by simp; omega) ?_; intro v' W2 hown' hgrow _ hat; obtain ⟨g', cap', rfl⟩ := ownsRow_succ hown'; obtain ⟨⟨hq1, hq2⟩, hq3⟩ := HN.out _ _ hgrow hown' hat; have HZ := Lib.hid hq3; clear hown' hgrow hq3 hat)
    exact HZ.out
  case done =>
    rintro D xs W hD rfl hI hK
    have HQ : Hid (PutP w B q (l ++ xs) (.returned (.tuple #[])) (W.putObj D (.deferred none))) := by
      obtain ⟨⟨v', h1, h2, _⟩, h3⟩ := (PutI.from rfl hq0 trivial : OwnFrom W0.heap.size (PutI B v l W0.heap.size X q W0)).putObj (.deferred none) hI hD hK rfl
      refine ⟨rfl, v', h1, h2, ?_⟩
      have hk1 : Kept X w (W.putObj D (.deferred none)) := by
        have := (Kept.refl X W0).kpq h3
        exact (hk0.mono (fun _ _ h => h.elim)).trans this (fun _ _ h => h)
      exact hk1.below (fun k h => (hXlt k h).1) hB
    gi_wp2
    refine ⟨by simp, .inl ⟨_, _, rfl, run_takeDeferred hK, ?_⟩⟩
    exact ⟨.tuple #[], results_none rfl _ _ _, HQ.out⟩
end Go.Proofs.YtekhlaodlagbdaaGreatDoor
