/-
  The pile's All; calls on none.
-/
import Derived.Test.YtdhpphkkpjldfabPW10
namespace Go.Proofs.Ytdhpphkkpjldfab
set_option maxRecDepth 100000
open Go Go.RowKit Pq
attribute [local go_sem] Oper.semAt_some

set_option maxHeartbeats 800000 in
theorem pclone_any {w : World} {B n : Nat} {v : Value} {xs : List Value} (h : w.ownsRow B 32 3 v n xs) (hn : n ≤ 100000) (h1 : ∀ u ∈ xs, u.oneCell' = true) :
    Calls Try.prog 25 #[v] w fun e w' => ∃ v', e = .returned v' ∧ w'.ownsRow w.heap.size 32 3 v' n xs ∧ Below w.heap.size w w' := by
  obtain ⟨i0, hi, hz0, hz1, hz2⟩ := info_parts Try.infoItem
  have q22 : ∀ (w : World) (a : Option Addr) (n c n' c' : Nat), (binOp .eql 24 (.slice a n c) (.slice none n' c')).run Try.prog w = .ok (.bool a.isNone) w := fun w a n c n' c' => Lib.run_eql_slice_nil w _ _ a n c n' c' Try.underlying24
  have hl := h.1
  rcases h.2 with ⟨rfl, rfl⟩ | ⟨g, cap, cur, rfl, _⟩
  · obtain rfl : xs = [] := by simpa using hl
    go_enter Try.func25, Try.ntmps25
    go_wp2
    go_ret
    exact ⟨_, rfl, World.ownsRow_nil _ _ _ _, Below.refl _ _⟩
  · have A : Hid (∀ j u, xs[j]? = some u → w.cell? ((⟨g, 0, none⟩ : Addr).add j) = some u) := h.cells rfl
    clear h
    go_enter Try.func25, Try.ntmps25
    go_wp2_with (at_builtin; refine wpList_append_own _ rfl _ _ 24 rfl w.heap.size 32 i0 (.agg #[.int .i64 0, .int .i64 0, .int .i64 0]) 3 24 Try.underlying24 hi hz0 hz1 hz2 rfl (by decide) _ _ _ rfl (World.ownsRow_made w #[] 0 (Nat.le_refl _) (Nat.zero_le _) (by simp)) ⟨g, 0, none⟩ n cap xs rfl ?qc1 ?qc2 ?qc3 ?qc4 ?qc5 ?qc6 ?_)
    case qc1 => exact hl
    case qc2 =>
      intro j u hj
      exact Lib.cell?_alloc_some _ (A.out j u hj)
    case qc3 => exact h1
    case qc4 => unfold maxLen; omega
    case qc5 => omega
    case qc6 => simp
    intro v' w1 hown hgrow _
    go_wp2
    go_ret
    exact ⟨v', rfl, by simpa using hown, ((Below.refl _ w).alloc (Nat.le_refl _) _).grown hgrow (by simp) (by intro k hk; simp [Value.ownBlock] at hk; omega)⟩

def AllPost (w : World) (s : List It) (e : Ending) (w' : World) : Prop :=
  ∃ v, e = .returned v ∧ w'.ownsRow w.heap.size 32 3 v s.length (csL s) ∧ Below w.heap.size w w'

set_option maxHeartbeats 1000000 in
theorem all_any {w : World} {b j : Nat} {r : Option Nat} {s : List It} (h : PileS w b j r s) (hl : s.length ≤ 9999) :
    Calls Try.prog 17 #[.pointer (some ⟨b, j, none⟩)] w (AllPost w s) := by
  obtain ⟨l, ⟨v, hc, hf, hr, hn, ho⟩, hh, hpm, hs⟩ := h
  have hll : l.length = s.length := hpm.length_eq
  have HC := Lib.hid (pclone_any ho (by omega) csL_one)
  have HW : Hid (∀ w1 v1 T, w1.ownsRow w.heap.size 32 3 v1 l.length (csL l) → Below w.heap.size w w1 → ∀ W, W = w1.alloc (.cells #[v1] T) →
      Calls Try.prog 18 #[.pointer (some ⟨w1.heap.size, 0, none⟩)] W (fun e w' => e = .returned (.int .i64 (s.length : Int)) ∧ W = w') ∧
      Calls Try.prog 14 #[.pointer (some ⟨w1.heap.size, 0, none⟩), .int .i64 (s.length : Int)] W (AllPost w s)) := by
    intro w1 v1 T ho1 hb1 W hW
    have hne : v1.ownBlock ≠ some w1.heap.size := by
      intro e
      have := (ho1.lt _ e).2
      omega
    have hp : PileS W w1.heap.size 0 v1.ownBlock s := by
      subst hW
      refine ⟨l, ⟨v1, ?_, ?_, rfl, hne, row_base (ho1.alloc _) (Nat.zero_le _)⟩, hh, hpm, hs⟩
      · rw [blk_cell (heap_alloc_new w1 _)]; rfl
      · exact blk_free (heap_alloc_new w1 _) 0
    refine ⟨len_s hp, (least_any hp hl _).mono ?_⟩
    rintro e w' ⟨v', he, ho', _, hk⟩
    have hWs : W.heap.size = w1.heap.size + 1 := by rw [hW]; simp
    have hbW : Below w.heap.size w W := by rw [hW]; exact hb1.trans (((Below.refl _ w1).alloc (Nat.le_refl _) _).mono hb1.size)
    have hsz := hb1.size
    refine ⟨v', he, ?_, hbW.trans (hk.kept.below ?_ (by omega))⟩
    · have e1 : s.take (s.length : Int).toNat = s := by simp
      rw [e1] at ho'
      exact row_base ho' (by omega)
    · rintro k (rfl | e)
      · omega
      · exact (ho1.lt k e.symm).1
  clear hf hr hn ho hh hpm hs
  generalize hsl : s.length = n at HW hl
  clear hsl hl hll
  go_enter Try.func17, Try.ntmps17
  go_wp2_with fail
  refine HC.out.mono ?_
  rintro e w1 ⟨v1, rfl, ho1, hb1⟩
  obtain ⟨h1, h2⟩ := HW.out w1 v1 26 ho1 hb1 _ rfl
  have H1 := Lib.hid h1
  have H2 := Lib.hid h2
  have hone : ∃ a n c, v1 = .slice a n c := by
    rcases ho1.2 with ⟨rfl, _⟩ | ⟨g, cap, cur, rfl, _⟩
    · exact ⟨_, _, _, rfl⟩
    · exact ⟨_, _, _, rfl⟩
  clear h1 h2 ho1 hb1
  obtain ⟨a, n', c, rfl⟩ := hone
  go_wp2_with fail
  refine H1.out.mono ?_
  rintro e w2 ⟨rfl, rfl⟩
  go_wp2_with fail
  refine H2.out.mono ?_
  rintro e w3 ⟨v3, rfl, hq⟩
  have HQ := Lib.hid hq
  clear hq
  go_wp2
  go_ret
  exact ⟨_, rfl, HQ.out⟩

set_option maxHeartbeats 400000 in
theorem all_none (w : World) :
    Calls Try.prog 17 #[.pointer none] w fun e w' => e = .returned (.slice none 0 0) ∧ w = w' := by
  go_enter Try.func17, Try.ntmps17
  go_wp2
  go_ret
  exact ⟨rfl, rfl⟩

set_option maxHeartbeats 1000000 in
theorem taken_none (n : Nat) (hn : 1 ≤ n) (bn bp : Nat) (m : Int) (w : World)
    (h1 : w.cell? ⟨bn, 0, none⟩ = some (.int .i64 m)) (h2 : w.cell? ⟨bp, 0, none⟩ = some (.pointer none)) :
    Tells n Try.prog 28 #[.pointer (some ⟨bn, 0, none⟩), .pointer (some ⟨bp, 0, none⟩)] (fun x : It => #[.agg #[.int .i64 x.c, .int .i64 x.t, .int .i64 x.i]]) (Kept (fun _ => False)) (fun _ _ => True)
      (fun xs _ => xs = []) 0 w := by
  intro l J W hW hJ _ h0
  have h1W : W.cell? ⟨bn, 0, none⟩ = some (.int .i64 m) := (hW.cell (p := ⟨bn, 0, none⟩) (World.block_lt_of_cell? w _ h1)).trans h1
  have h2W : W.cell? ⟨bp, 0, none⟩ = some (.pointer none) := (hW.cell (p := ⟨bp, 0, none⟩) (World.block_lt_of_cell? w _ h2)).trans h2
  have HJ := Lib.hid hJ
  clear h1 h2 hW hJ
  refine callsIn_of_wp Try.func28 rfl trivial ?_ rfl
  simp only [Try.ntmps28, List.size_toArray, List.length_cons, List.length_nil, Nat.reduceAdd, Nat.reduceSub, Array.replicate_succ, Array.replicate_zero, List.push_toArray, List.append_toArray, List.nil_append, List.cons_append]
  gi_wp2
  gi_loopw [7] (fun i wr => i = .int .i64 0 ∧ J [] wr ∧ wr.cell? ⟨bp, 0, none⟩ = some (.pointer none)) (fun _ _ => 0)
  case atStart => exact ⟨rfl, h0, h2W⟩
  case round =>
    obtain ⟨rfl, hj, hc⟩ := hrel
    have HJk := Lib.hid hj
    clear hj h1W h2W h0
    by_cases hlt : 0 < m
    · have HQ : Hid (∀ w', Below wr.heap.size wr w' → ∀ o, ∃ xs : List It, xs = [] ∧ J xs (w'.alloc o)) := fun w' hb o => ⟨[], rfl, HJ.out _ _ _ HJk.out ((Kept.of_below hb (Nat.le_refl _)).alloc o)⟩
      gi_wp2_with fail
      refine ⟨trivial, (callsIn_wide.2 (pop_none _)).mono ?_⟩
      rintro e w1 ⟨rfl, hb1⟩
      have HB1 := Lib.hid hb1
      clear hb1
      gi_wp2
      refine ⟨fun _ h => (by cases h), ?_⟩
      gi_wp2
      refine bodyPost_ret (results_none rfl _ _ _) rfl ?_
      exact ⟨⟨_, rfl⟩, HQ.out _ HB1.out _⟩
    · gi_wp2
      go_end0
      exact ⟨⟨_, rfl⟩, HJk.out⟩

set_option maxHeartbeats 400000 in
theorem takenp_none (m : Int) (w : World) :
    Calls Try.prog 24 #[.pointer none, .int .i64 m] w fun e w' => e = .returned (.func (.func 28) #[] #[.pointer (some ⟨w.heap.size + 1, 0, none⟩), .pointer (some ⟨w.heap.size, 0, none⟩)]) ∧ w' = (w.alloc (.cells #[.pointer none] 23)).alloc (.cells #[.int .i64 m] 3) := by
  go_enter Try.func24, Try.ntmps24
  go_wp2
  go_ret
  exact ⟨rfl, rfl⟩

def LeastN (w : World) (pre : List It) (W : World) : Prop := pre = [] ∧ W.heap[w.heap.size]? = some (.cells #[.slice none 0 0] 24 (0, 0)) ∧ Kept (fun _ => False) w W

set_option maxHeartbeats 1000000 in
theorem least_none (m : Int) (w : World) :
    Calls Try.prog 14 #[.pointer none, .int .i64 m] w fun e w' => e = .returned (.slice none 0 0) ∧ Below w.heap.size w w' := by
  refine (callsIn_wide (n := 9)).1 ?_
  refine callsIn_of_wp_marks Try.func14 rfl trivial ?_ rfl
  simp only [Try.ntmps14, List.size_toArray, List.length_cons, List.length_nil, Nat.reduceAdd, Nat.reduceSub, Array.replicate_succ, Array.replicate_zero, List.push_toArray, List.append_toArray, List.nil_append, List.cons_append]
  gi_wp2_with fail
  refine ⟨trivial, (callsIn_wide.2 (takenp_none _ _)).mono ?_⟩
  rintro e w1 ⟨rfl, rfl⟩
  gi_wp2_with fail
  obtain ⟨W0, hW0⟩ : ∃ W0, ((w.alloc (.cells #[.slice none 0 0] 24)).alloc (.cells #[.pointer none] 23)).alloc (.cells #[.int .i64 m] 3) = W0 := ⟨_, rfl⟩
  have hz : W0.heap.size = w.heap.size + 3 := by rw [← hW0]; simp
  have hk0 : Kept (fun _ => False) w W0 := by rw [← hW0]; exact (((Kept.refl _ w).alloc _).alloc _).alloc _
  have b5 : W0.heap[w.heap.size]? = some (.cells #[.slice none 0 0] 24 (0, 0)) := by
    rw [← hW0]
    exact ((((Kept.refl (fun _ => False) (w.alloc (.cells #[.slice none 0 0] 24))).alloc _).alloc _).block w.heap.size (by simp) id).trans (heap_alloc_new w _)
  have cp : W0.cell? ⟨w.heap.size + 1, 0, none⟩ = some (.pointer none) := by
    rw [← hW0]
    exact cell_a1 (by have := heap_alloc_new (w.alloc (.cells #[.slice none 0 0] 24)) (.cells #[.pointer none] 23); rw [World.size_alloc] at this; rw [blk_cell this]; rfl) _
  have cn : W0.cell? ⟨w.heap.size + 1 + 1, 0, none⟩ = some (.int .i64 m) := by
    rw [← hW0]
    have := heap_alloc_new ((w.alloc (.cells #[.slice none 0 0] 24)).alloc (.cells #[.pointer none] 23)) (.cells #[.int .i64 m] 3)
    rw [World.size_alloc, World.size_alloc] at this
    rw [blk_cell this]; rfl
  have h00 : LeastN w [] W0 := ⟨rfl, b5, hk0⟩
  rw [hW0]
  clear hW0 hk0 b5
  have HC0 := Lib.hid cp
  have HN0 := Lib.hid cn
  clear cp cn
  refine range_state (by omega) (gf := 28) (lb := #[.pointer (some ⟨w.heap.size + 1 + 1, 0, none⟩), .pointer (some ⟨w.heap.size + 1, 0, none⟩)]) rfl (enters_of Try.func28 (by kernel_rfl) rfl)
    (encs := fun x : It => #[.agg #[.int .i64 x.c, .int .i64 x.t, .int .i64 x.i]]) (fun _ => rfl)
    (taken_none (9 - 1) (by omega) (w.heap.size + 1 + 1) (w.heap.size + 1) m W0 HN0.out HC0.out) (Below.refl _ _)
    (fun A B ht => ⟨ht.size, fun k o _ ho _ => (ht.block k (blk_lt ho) id).trans ho⟩) (fun _ _ => trivial)
    (fun W l o o' hl' _ _ => trivial)
    (LeastN w) ?hI (fun s A B h ht => ⟨h.1, (ht.block _ (blk_lt h.2.1) id).trans h.2.1, h.2.2.trans ht (fun _ _ => id)⟩) (fun _ _ _ _ h _ _ => h) h00
    (fun _ _ _ => True) (fun _ _ _ _ _ _ _ _ _ => trivial)
    ?assign ?body ?done
  case hI =>
    rintro s A B row ⟨h1, h2, h3⟩ hg hr
    exact ⟨h1, (hg.block _ (blk_lt h2) (fun e => by have := (hr _ e.symm).1; omega)).trans h2, h3.trans (kept_row hg) (fun i hi e => by have := (hr i e.symm).1; omega)⟩
  case assign =>
    intro l pre x W K hI hK
    gi_wp2
    refine hK _ _ ?_ trivial ?_ trivial
    · exact (KeepsOthers.alloc _ _).from _
    · exact ⟨hI.1, (Below.heap_alloc W _ _ (blk_lt hI.2.1)).trans hI.2.1, hI.2.2.alloc _⟩
  case body =>
    intro l pre x a' W _ _ _ hlen
    omega
  case done =>
    rintro D xs W hD rfl hI hK
    have c5 : W.cell? ⟨w.heap.size, 0, none⟩ = some (.slice none 0 0) := by rw [blk_cell hI.2.1]; rfl
    have HQ : Hid (Below w.heap.size w (W.putObj D (.deferred none))) :=
      (hI.2.2.trans (kept_row (grownBy_putObj' W D (.deferred none))) (fun i hi e => by cases e; omega)).below (fun _ h => h.elim) (Nat.le_refl _)
    clear hI
    gi_wp2
    refine ⟨by simp, .inl ⟨_, _, rfl, run_takeDeferred hK, ?_⟩⟩
    exact ⟨_, results_tmp (t := 4) rfl _ _ _, rfl, HQ.out⟩
end Go.Proofs.Ytdhpphkkpjldfab
