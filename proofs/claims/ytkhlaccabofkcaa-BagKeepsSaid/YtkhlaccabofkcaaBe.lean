/-
  Calls on none; one bag beside blocks that stay.
-/
import Derived.Test.YtkhlaccabofkcaaBa
import Derived.Test.YtkhlaccabofkcaaBc
namespace Go.Proofs.Ytkhlaccabofkcaa
set_option maxRecDepth 100000
set_option linter.unusedSimpArgs false
open Go Go.RowKit Bg
attribute [local go_sem] Oper.semAt_some

set_option maxHeartbeats 2000000 in
theorem nil_stops (n : Nat) (hn : 1 ≤ n) {w : World} {bx : Nat} (hx : w.cell? ⟨bx, 0, none⟩ = some (.pointer none)) :
    SeqStopsK Fence.wide n Try.prog 37 #[.pointer (some ⟨bx, 0, none⟩)] (fun x : Empty => x.elim) (fun _ _ => True)
      (fun _ => True) (fun _ => True) 0 w := by
  intro l J Jx W hW hJ hJx hY h0
  have cx : W.cell? ⟨bx, 0, none⟩ = some (.pointer none) := (hW.cell (p := ⟨bx, 0, none⟩) (World.block_lt_of_cell? w _ hx)).trans hx
  obtain ⟨P, hP⟩ : ∃ P : Ending → World → Prop, P = fun e W' => (∃ v, e = .returned v) ∧ ((∃ xs : List Empty, True ∧ J xs W') ∨ (∃ pre : List Empty, True ∧ Jx pre W')) := ⟨_, rfl⟩
  have HQ : Hid (P (.returned (.tuple #[])) W) := by rw [hP]; exact ⟨⟨_, rfl⟩, .inl ⟨[], trivial, h0⟩⟩
  rw [← hP]
  clear hP hW hJ hJx hY h0 hx
  refine callsIn_of_wp Try.func37 rfl trivial ?_ rfl
  simp only [Try.ntmps37, List.size_toArray, List.length_cons, List.length_nil, Nat.reduceAdd, Nat.reduceSub, Array.replicate_succ, Array.replicate_zero, List.push_toArray, List.append_toArray, List.nil_append, List.cons_append]
  gi_wp2_with fail
  refine ⟨trivial, (callsIn_wide.2 (len_none W)).mono ?_⟩
  rintro e w' ⟨rfl, rfl⟩
  gi_wp2
  gi_loopw [6] (fun i wr => i = .int .i64 0 ∧ wr = W) (fun i _ => (intOf i).toNat)
  case atStart => exact ⟨rfl, rfl⟩
  case round =>
    obtain ⟨rfl, rfl⟩ := hrel
    gi_wp2
    exact bodyPost_end (results_none rfl _ _ _) rfl HQ.out

set_option maxHeartbeats 2000000 in
theorem all_none (w : World) : Calls Try.prog 12 #[.pointer none] w fun e w' => e = .returned (.slice none 0 0) ∧ Below w.heap.size w w' := by
  obtain ⟨P, hP⟩ : ∃ P : Ending → World → Prop, P = fun e w' => e = .returned (.slice none 0 0) ∧ Below w.heap.size w w' := ⟨_, rfl⟩
  rw [← hP]
  refine (callsIn_wide (n := 9)).1 ?_
  refine callsIn_of_wp_marks Try.func12 rfl trivial ?_ rfl
  simp only [Try.ntmps12, List.size_toArray, List.length_cons, List.length_nil, Nat.reduceAdd, Nat.reduceSub, Array.replicate_succ, Array.replicate_zero, List.push_toArray, List.append_toArray, List.nil_append, List.cons_append]
  gi_wp2_with fail
  refine ⟨trivial, (callsIn_wide.2 (placed_any _ _)).mono ?_⟩
  rintro e w2 ⟨rfl, rfl⟩
  gi_wp2_with fail
  obtain ⟨W0, hW0⟩ : ∃ W0, placedW (w.alloc (.cells #[.slice none 0 0] 25)) (.pointer none) = W0 := ⟨_, rfl⟩
  have hz : W0.heap.size = w.heap.size + 2 := by rw [← hW0]; simp [placedW]
  have hb0 : Below w.heap.size w W0 := by rw [← hW0, placedW]; exact (((Below.refl _ w).alloc (by simp) _).alloc (by simp) _)
  have hq0 : W0.heap[w.heap.size]? = some (.cells #[.slice none 0 0] 25 (0, 0)) := by
    rw [← hW0, placedW, Below.heap_alloc _ _ _ (by simp)]; exact World.alloc_heap_new w _
  have hx0 : W0.cell? ⟨w.heap.size + 1, 0, none⟩ = some (.pointer none) := by
    rw [← hW0]
    have := placedW_cell (w.alloc (.cells #[.slice none 0 0] 25)) (.pointer none)
    simpa only [World.size_alloc] using this
  rw [hW0]
  have HZ := Lib.hid hz
  clear hW0 hz
  have HB := Lib.hid hb0
  have HQ0 := Lib.hid hq0
  clear hb0 hq0
  refine wpIn_rangeFunc_ownH rfl (by omega) (gf := 37) (lb := #[.pointer (some ⟨w.heap.size + 1, 0, none⟩)]) rfl trivial (enters_of Try.func37 (by kernel_rfl) rfl)
    (nil_stops (9 - 1) (by omega) hx0) (fun _ _ => trivial) (fun _ _ _ _ _ _ _ _ => trivial) (Below.refl _ _) (fun x => x.elim)
    (fun _ W => Below w.heap.size w W ∧ W.heap[w.heap.size]? = some (.cells #[.slice none 0 0] 25 (0, 0))) (fun _ _ _ => False) ?hI (fun _ _ _ _ _ h => h.elim) ⟨HB.out, HQ0.out⟩
    (fun x _ _ => x.elim) (fun x => x.elim) (fun _ _ x => x.elim) (fun _ _ x => x.elim) ?done (fun _ _ _ _ _ _ h => h.elim)
  case hI =>
    rintro pre W W' row ⟨h1, h2⟩ hg hr
    exact ⟨h1.grown hg h1.size (fun k e => by have := (hr k e).1; have := HZ.out; omega), (hg.block _ (blk_lt h2) (fun e => by have := (hr _ e.symm).1; have := HZ.out; omega)).trans h2⟩
  case done =>
    rintro D xs W hD hS ⟨h1, h2⟩ hK
    have q1 : W.cell? ⟨w.heap.size, 0, none⟩ = some (.slice none 0 0) := by rw [blk_cell h2]; rfl
    have HE : Hid (P (.returned (.slice none 0 0)) (W.putObj D (.deferred none))) := by
      rw [hP]
      exact ⟨rfl, h1.trans ⟨rfl, rfl, rfl, by simp [World.putObj], fun k hk => World.putObj_heap_other (by have := HZ.out; omega)⟩⟩
    clear h1 h2 hP
    gi_wp2
    refine ⟨by simp, .inl ⟨_, _, rfl, run_takeDeferred hK, ?_⟩⟩
    exact ⟨_, results_tmp (t := 2) rfl _ _ _, HE.out⟩

/-- One bag, and blocks that stay as they are. -/
def OneF (w0 : World) (o : Nat) (b : St) (K : List (Nat × Obj)) (W : World) : Prop := Below w0.heap.size w0 W ∧ ∃ S, BagAt 29 W S o b ∧ (∀ k, S k → w0.heap.size ≤ k) ∧ ∀ p ∈ K, W.heap[p.1]? = some p.2 ∧ ¬ S p.1
namespace OneF
variable {w0 W W' : World} {o : Nat} {b b' : St} {K K' : List (Nat × Obj)}
theorem one (h : OneF w0 o b K W) : One 29 w0 o b W := by
  obtain ⟨h1, S, h2, h3, _⟩ := h
  exact ⟨h1, S, h2, h3⟩
theorem le (h : OneF w0 o b K W) : w0.heap.size ≤ W.heap.size := h.1.size
theorem of {S : Nat → Prop} (h1 : Below w0.heap.size w0 W) (h3 : ∀ k, S k → w0.heap.size ≤ k) (h4 : ∀ p ∈ K, W.heap[p.1]? = some p.2 ∧ ¬ S p.1) (k : StepTo 29 W S o b' W') : OneF w0 o b' K W' := by
  obtain ⟨k1, S', k2, k3, k4⟩ := k
  refine ⟨h1.trans (k1.below h3 h1.size), S', k2, fun i hi => (k4 i hi).elim (h3 i) (fun h => Nat.le_trans h1.size h), fun p hp => ?_⟩
  obtain ⟨q1, q2⟩ := h4 p hp
  have hlt := blk_lt q1
  exact ⟨(k1.block _ hlt q2).trans q1, fun hs => (k4 _ hs).elim q2 (fun h => by omega)⟩
theorem later (h : OneF w0 o b K W) (hb : Below W.heap.size W W') : OneF w0 o b K W' := by
  obtain ⟨h1, S, h2, h3, h4⟩ := h
  exact ⟨h1.trans (hb.mono h1.size), S, h2.below hb, h3, fun p hp => ⟨(hb.block _ (blk_lt (h4 p hp).1)).trans (h4 p hp).1, (h4 p hp).2⟩⟩
theorem add (h : OneF w0 o b K W) (x : Obj) : OneF w0 o b ((W.heap.size, x) :: K) (W.alloc x) := by
  have h' := h.later ((Below.refl _ W).alloc (Nat.le_refl _) x)
  obtain ⟨h1, S, h2, h3, h4⟩ := h
  refine ⟨h1.alloc h1.size x, S, h2.alloc x, h3, fun p hp => ?_⟩
  rcases List.mem_cons.1 hp with rfl | hp
  · exact ⟨World.alloc_heap_new W x, fun hs => by have := h2.lt _ hs; simp only at this; omega⟩
  · exact ⟨(Below.heap_alloc _ _ _ (blk_lt (h4 p hp).1)).trans (h4 p hp).1, (h4 p hp).2⟩
theorem less (h : OneF w0 o b K W) (hK : ∀ p ∈ K', p ∈ K) : OneF w0 o b K' W := by
  obtain ⟨h1, S, h2, h3, h4⟩ := h
  exact ⟨h1, S, h2, h3, fun p hp => h4 p (hK p hp)⟩
theorem obj (h : OneF w0 o b K W) : ∀ p ∈ K, W.heap[p.1]? = some p.2 := by
  obtain ⟨h1, S, h2, h3, h4⟩ := h
  exact fun p hp => (h4 p hp).1
end OneF

section
variable {w0 W : World} {o k : Nat} {b : St} {K : List (Nat × Obj)}
theorem onf_send (h : OneF w0 o b K W) (hb : Bd k b) (hk : k ≤ 900000) (f t : Int) {d : List Nat} {A : Option Addr} {cap : Nat} (hA : BytesAt W A d) (hX : ∀ a, A = some a → 0 < d.length → a.block ≠ o) (hn : A = none → d = [] ∧ cap = 0) (hd : d.length ≤ 100000) :
    Calls Try.prog 17 #[.pointer (some ⟨o, 0, none⟩), .int .i64 f, .int .i64 t, .slice A d.length cap] W fun e w' => e = .returned (.int .i64 (comeV b)) ∧ OneF w0 o (sendS b f t d) K w' := by
  obtain ⟨h1, S, h2, h3, h4⟩ := h
  exact (send_any h2 hb hk f t hA hX hn hd).mono fun e w' ⟨q1, q2⟩ => ⟨q1, OneF.of h1 h3 h4 q2⟩
theorem onf_del (h : OneF w0 o b K W) (hb : Bd k b) (hk : k ≤ 900000) (n : Int) :
    Calls Try.prog 20 #[.pointer (some ⟨o, 0, none⟩), .int .i64 n] W fun e w' => ∃ A cap, e = .returned (.tuple #[flA (delX b n).1 (.slice A (delX b n).1.d.length cap), .int .i64 (delX b n).2]) ∧ BytesAt w' A (delX b n).1.d ∧ OneF w0 o (delS b n) K w' ∧ (∀ a, A = some a → 0 < (delX b n).1.d.length → ∃ x, w'.heap[a.block]? = some x ∧ OneF w0 o (delS b n) ((a.block, x) :: K) w') := by
  obtain ⟨h1, S, h2, h3, h4⟩ := h
  refine (deliver_q h2 hb hk n).mono ?_
  rintro e w' ⟨A, cap, q1, q2, q3, q4, q5⟩
  have hb' : Below w0.heap.size w0 w' := h1.trans (q4.below h3 h1.size)
  have hK : ∀ p ∈ K, w'.heap[p.1]? = some p.2 ∧ ¬ SM S A p.1 := fun p hp => ⟨(q4.block _ (blk_lt (h4 p hp).1) (h4 p hp).2).trans (h4 p hp).1, fun hs => (h4 p hp).2 hs.1⟩
  refine ⟨A, cap, q1, q2, ⟨hb', _, q5, fun k hk => h3 k hk.1, hK⟩, fun a ha h0 => ?_⟩
  have hlt := q2.lt a ha h0
  refine ⟨_, Array.getElem?_eq_getElem hlt, hb', _, q5, fun k hk => h3 k hk.1, fun p hp => ?_⟩
  rcases List.mem_cons.1 hp with rfl | hp
  · exact ⟨Array.getElem?_eq_getElem hlt, fun hs => hs.2 a ha rfl⟩
  · exact hK p hp
theorem onf_dbl (h : OneF w0 o b K W) (hb : Bd k b) (hk : k ≤ 900000) (n : Int) :
    Calls Try.prog 18 #[.pointer (some ⟨o, 0, none⟩), .int .i64 n] W fun e w' => e = .returned (.tuple #[.int .i64 (dblX b n).1, .int .i64 (dblX b n).2]) ∧ OneF w0 o (dblS b n) K w' := by
  obtain ⟨h1, S, h2, h3, h4⟩ := h
  exact (dbl_any h2 hb hk n).mono fun e w' ⟨q1, q2⟩ => ⟨q1, OneF.of h1 h3 h4 q2⟩
theorem onf_spoil (h : OneF w0 o b K W) (hb : Bd k b) (hk : k ≤ 900000) (n a : Int) {v : Nat} (hv : v < 256) :
    Calls Try.prog 19 #[.pointer (some ⟨o, 0, none⟩), .int .i64 n, .int .i64 a, .int .u8 (v : Nat)] W fun e w' => e = .returned (.int .i64 (spoilV b n a v)) ∧ OneF w0 o (spoilS b n a v) K w' := by
  obtain ⟨h1, S, h2, h3, h4⟩ := h
  exact (spoil_any h2 hb hk n a hv).mono fun e w' ⟨q1, q2⟩ => ⟨q1, OneF.of h1 h3 h4 q2⟩
theorem onf_all (h : OneF w0 o b K W) (hb : Bd k b) :
    Calls Try.prog 12 #[.pointer (some ⟨o, 0, none⟩)] W fun e w' => AllP W b.l e w' ∧ OneF w0 o b K w' := by
  have h0 := h
  obtain ⟨h1, S, h2, h3, h4⟩ := h
  refine (all_any h2 hb).mono fun e w' h5 => ⟨h5, ?_⟩
  obtain ⟨v, E, _, _, _, h6⟩ := h5
  exact h0.later h6
theorem onf_count (h : OneF w0 o b K W) : Calls Try.prog 16 #[.pointer (some ⟨o, 0, none⟩)] W fun e w' => e = .returned (ctA b.c) ∧ OneF w0 o b K w' := by
  have h0 := h
  obtain ⟨h1, S, h2, h3, h4⟩ := h
  exact (count_any h2).mono fun e w' ⟨q1, q2⟩ => ⟨q1, h0.later q2⟩
theorem onf_len (h : OneF w0 o b K W) : Calls Try.prog 15 #[.pointer (some ⟨o, 0, none⟩)] W fun e w' => e = .returned (.int .i64 (b.l.length : Nat)) ∧ W = w' := by
  obtain ⟨h1, S, h2, h3, h4⟩ := h
  exact len_any h2
end
end Go.Proofs.Ytkhlaccabofkcaa
