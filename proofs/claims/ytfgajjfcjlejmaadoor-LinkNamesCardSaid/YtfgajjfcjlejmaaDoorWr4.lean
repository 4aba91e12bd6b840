/-
  CheckMessage.
-/
import Derived.Test.YtfgajjfcjlejmaaDoorWr2
import Derived.Test.YtfgajjfcjlejmaaDoorWr3
import Derived.Test.YtfgajjfcjlejmaaDoorRnd
import Derived.Test.YtfgajjfcjlejmaaDoorWrE
namespace Go.Proofs.YtfgajjfcjlejmaaDoor
set_option maxRecDepth 100000
set_option linter.unusedSimpArgs false
open Go Go.RowKit Wr
attribute [local go_sem] Oper.semAt_some

def left (m : Msg) (pre : List Nat) (j : Nat) : Int := if pre.contains j then 0 else num m j
@[reducible] def arr9 (f : Nat → Int) : Array Value := #[.int .i64 (f 0), .int .i64 (f 1), .int .i64 (f 2), .int .i64 (f 3), .int .i64 (f 4), .int .i64 (f 5), .int .i64 (f 6), .int .i64 (f 7), .int .i64 (f 8)]
theorem arr9_get (f : Nat → Int) {j : Nat} (hj : j < 9) : (arr9 f)[j]? = some (.int .i64 (f j)) := by
  have h : j = 0 ∨ j = 1 ∨ j = 2 ∨ j = 3 ∨ j = 4 ∨ j = 5 ∨ j = 6 ∨ j = 7 ∨ j = 8 := by omega
  rcases h with rfl | rfl | rfl | rfl | rfl | rfl | rfl | rfl | rfl <;> rfl
theorem arr9_set (f g : Nat → Int) (j : Nat) (u : Int) (hj : j < 9) (hu : g j = u) (hg : ∀ i, i ≠ j → g i = f i) : (arr9 f).setIfInBounds j (.int .i64 u) = arr9 g := by
  have h : j = 0 ∨ j = 1 ∨ j = 2 ∨ j = 3 ∨ j = 4 ∨ j = 5 ∨ j = 6 ∨ j = 7 ∨ j = 8 := by omega
  subst hu
  rcases h with rfl | rfl | rfl | rfl | rfl | rfl | rfl | rfl | rfl <;> simp (config := { decide := true }) [arr9, hg]

/-- A message in memory. -/
@[reducible] def msgC (m : Msg) (A : Option Addr) (n cap : Nat) : Array Value := #[.int .i64 m.kind, .int .i64 m.cell, .int .u32 (m.gen : Nat), .int .u64 (m.stamp : Nat), .int .i64 m.prio, .int .i64 m.hops, .int .i64 m.origin, .int .i64 m.other, .slice A n cap]

/-- Between two rounds. -/
def ChkI (w : World) (b : Nat) (m : Msg) (A : Option Addr) (cap : Nat) (pre : List Fl) (W : World) : Prop :=
  Below w.heap.size w W ∧ W.heap[w.heap.size]? = some (.cells (msgC m A m.claims.length cap) 37 (0, 0)) ∧ W.heap[b]? = some (.cells (arr9 (left m (pre.map (·.1)))) 125 (0, 0)) ∧ ∀ x ∈ pre, inR x.1 (num m x.1) = true

/-- A round has left. -/
def ChkX (w : World) (b : Nat) (m : Msg) (A : Option Addr) (cap : Nat) (c : Code) (pre : List Fl) (W : World) : Prop :=
  c = .exit 0 ∧ Below w.heap.size w W ∧ W.heap[w.heap.size]? = some (.cells (msgC m A m.claims.length cap) 37 (0, 0)) ∧
    ∃ (f : Nat → Int) (x : Fl), W.heap[b]? = some (.cells (arr9 f) 125 (0, 0)) ∧ x ∈ pre ∧ f x.1 ≠ 0 ∧ inR x.1 (num m x.1) = false
theorem ChkI.from {w : World} {b B : Nat} {m : Msg} {A : Option Addr} {cap : Nat} (h1 : w.heap.size < B) (h2 : b < B) : OwnFrom B (ChkI w b m A cap) := by
  rintro pre W W' row ⟨a1, a2, a3, a4⟩ hg hr
  have hne : ∀ k, k < B → some k ≠ row := fun k hk e => by have := (hr k e.symm).1; omega
  exact ⟨a1.grown hg (a1.size) (fun k e => by have := (hr k e).1; omega), (hg.block _ (blk_lt a2) (hne _ h1)).trans a2, (hg.block _ (blk_lt a3) (hne _ h2)).trans a3, a4⟩
theorem ChkX.from {w : World} {b B : Nat} {m : Msg} {A : Option Addr} {cap : Nat} (h1 : w.heap.size < B) (h2 : b < B) (c : Code) : OwnFrom B (ChkX w b m A cap c) := by
  rintro pre W W' row ⟨a0, a1, a2, f, x, a3, a4⟩ hg hr
  have hne : ∀ k, k < B → some k ≠ row := fun k hk e => by have := (hr k e.symm).1; omega
  exact ⟨a0, a1.grown hg (a1.size) (fun k e => by have := (hr k e).1; omega), (hg.block _ (blk_lt a2) (hne _ h1)).trans a2, f, x, (hg.block _ (blk_lt a3) (hne _ h2)).trans a3, a4⟩

theorem lo_hi : ∀ f, f < 9 → lo f ≤ 0 ∧ 0 ≤ hi f := by decide
theorem left_snoc (m : Msg) (pre : List Nat) (x j : Nat) (hj : j ≠ x) : left m (pre ++ [x]) j = left m pre j := by
  unfold left
  have : (pre ++ [x]).contains j = pre.contains j := by simp [hj]
  rw [this]
theorem chk_exit {w W : World} {b : Nat} {m : Msg} {A : Option Addr} {cap : Nat} {pre : List Fl} (hI : ChkI w b m A cap pre W) (x : Fl) (B nq : Nat)
    (h : left m (pre.map (·.1)) x.1 < lo x.1 ∨ hi x.1 < left m (pre.map (·.1)) x.1) : KeepsFrom B W (W.drewN nq) ∧ ChkX w b m A cap (.exit 0) (pre ++ [x]) (W.drewN nq) := by
  obtain ⟨h1, h2, h3, h4⟩ := hI
  have hx := x.2
  have hl := lo_hi x.1 (by omega)
  have hv : left m (pre.map (·.1)) x.1 = num m x.1 := by
    unfold left at h ⊢
    split
    · rename_i hc
      rw [if_pos hc] at h
      omega
    · rfl
  refine ⟨⟨Nat.le_refl _, fun k o _ hk _ => hk⟩, rfl, ⟨h1.os, h1.tape, h1.output, h1.size, h1.block⟩, h2, left m (pre.map (fun x : Fl => x.1)), x, h3, by simp, by omega, ?_⟩
  unfold inR
  rw [hv] at h
  exact decide_eq_false (by omega)
theorem chk_on {w W : World} {b : Nat} {m : Msg} {A : Option Addr} {cap : Nat} {pre : List Fl} (hI : ChkI w b m A cap pre W) (x : Fl) (B nq : Nat) (hB : b < B) (hb : w.heap.size < b)
    (h : ¬ (left m (pre.map (·.1)) x.1 < lo x.1 ∨ hi x.1 < left m (pre.map (·.1)) x.1)) : KeepsFrom B W ((W.drewN nq).setCell ⟨b, x.1, none⟩ (.int .i64 0)) ∧ True ∧ ChkI w b m A cap (pre ++ [x]) ((W.drewN nq).setCell ⟨b, x.1, none⟩ (.int .i64 0)) := by
  obtain ⟨h1, h2, h3, h4⟩ := hI
  have hx := x.2
  have h5 : Below w.heap.size w (W.drewN nq) := ⟨h1.os, h1.tape, h1.output, h1.size, h1.block⟩
  refine ⟨⟨by simp, fun k o hk ho _ => (Below.heap_setCell _ _ _ _ (by simp; omega)).trans ho⟩, trivial, h5.setCell (p := ⟨b, x.1, none⟩) (by simp; omega) _, (Below.heap_setCell _ _ _ _ (by simp; omega)).trans h2, ?_, ?_⟩
  · have h6 : (W.drewN nq).heap[b]? = some (.cells (arr9 (left m (pre.map (·.1)))) 125 (0, 0)) := h3
    rw [blk_set h6, arr9_set (left m (pre.map (·.1))) (left m ((pre ++ [x]).map (·.1))) x.1 0 (by omega) ?_ ?_]
    · simp [left]
    · intro i hi
      rw [List.map_append, List.map_cons, List.map_nil, left_snoc _ _ _ _ hi]
  · intro y hy
    rcases List.mem_append.1 hy with hy | hy
    · exact h4 y hy
    · rw [List.mem_singleton] at hy
      subst hy
      by_cases hc : (pre.map (·.1)).contains y.1
      · obtain ⟨z, hz, e⟩ := List.mem_map.1 (List.contains_iff_mem.1 hc)
        have := h4 z hz
        rwa [e] at this
      · have e : left m (pre.map (·.1)) y.1 = num m y.1 := by unfold left; rw [if_neg hc]
        rw [e] at h
        unfold inR
        exact decide_eq_true (by omega)
/-- Is nothing left? -/
def zer (f : Nat → Int) : Bool := (List.range 9).all (fun j => f j == 0)
theorem ok_done {m : Msg} {xs : List Fl} (hS : xs.map (·.1) = flds m.kind) (h4 : ∀ x ∈ xs, inR x.1 (num m x.1) = true) : okM m = (isKind m.kind && zer (left m (xs.map (·.1))) && rise 0 m.claims) := by
  unfold okM zer
  rw [hS]
  congr 2
  refine Bool.eq_iff_iff.2 ?_
  simp only [List.all_eq_true, left]
  refine forall_congr' fun j => forall_congr' fun _ => ?_
  by_cases hc : (flds m.kind).contains j
  · rw [if_pos hc, if_pos hc]
    refine ⟨fun _ => rfl, fun _ => ?_⟩
    rw [← hS] at hc
    obtain ⟨z, hz, e⟩ := List.mem_map.1 (List.contains_iff_mem.1 hc)
    have := h4 z hz
    rwa [e] at this
  · rw [if_neg hc, if_neg hc]
theorem ok_stop {m : Msg} {pre : List Fl} {f : Nat → Int} {x : Fl} (hS : pre.map (·.1) <+: flds m.kind) (hx : x ∈ pre) (h0 : f x.1 ≠ 0) (h1 : inR x.1 (num m x.1) = false) : okM m = (isKind m.kind && zer f && rise 0 m.claims) := by
  have hx2 := x.2
  have e1 : zer f = false := by
    unfold zer
    rw [List.all_eq_false]
    exact ⟨x.1, List.mem_range.2 (by omega), by simpa using h0⟩
  have e2 : (List.range 9).all (fun f => if (flds m.kind).contains f then inR f (num m f) else num m f == 0) = false := by
    rw [List.all_eq_false]
    refine ⟨x.1, List.mem_range.2 (by omega), ?_⟩
    rw [if_pos (List.contains_iff_mem.2 (hS.subset (List.mem_map.2 ⟨x, hx, rfl⟩)))]
    simp [h1]
  unfold okM
  rw [e1, e2, Bool.and_false]

theorem zer_eq (f : Nat → Int) : zer f = (f 0 == 0 && (f 1 == 0 && (f 2 == 0 && (f 3 == 0 && (f 4 == 0 && (f 5 == 0 && (f 6 == 0 && (f 7 == 0 && f 8 == 0)))))))) := by
  simp [zer, List.range, List.range.loop]
theorem word_some {k : Int} (h : isKind k = true) : ∃ c s, wordI k = .string ⟨(c :: s).toArray⟩ := by
  unfold isKind at h
  have h := of_decide_eq_true h
  obtain ⟨n, rfl⟩ := Int.eq_ofNat_of_zero_le (show 0 ≤ k by omega)
  have hn : n < 12 := by omega
  have h1 : 1 ≤ n := by omega
  unfold wordI
  rw [if_pos (by omega)]
  match n, hn, h1 with
  | 1, _, _ | 2, _, _ | 3, _, _ | 4, _, _ | 5, _, _ | 6, _, _ | 7, _, _ | 8, _, _ | 9, _, _ | 10, _, _ | 11, _, _ => exact ⟨_, _, rfl⟩
theorem word_none {k : Int} (h : ¬ isKind k = true) : wordI k = .string ⟨#[]⟩ := by
  unfold wordI
  split
  · rename_i hk
    have : ¬ (1 ≤ k ∧ k ≤ 11) := fun h2 => h (decide_eq_true h2)
    obtain rfl : k = 0 := by omega
    rfl
  · rfl

set_option maxHeartbeats 4000000 in
theorem check_any {w : World} (hT : Tab w) (m : Msg) {A : Option Addr} (cap : Nat) (hC : ClaimsAt w A m.claims) (hl : m.claims.length ≤ 100000) (hg : m.gen < 4294967296) :
    Calls Tryd.prog 40 #[msgA m A m.claims.length cap] w fun e w' => e = .returned (.int .i64 (if okM m then 0 else 71)) ∧ Below w.heap.size w w' := by
  have HT := Lib.hid hT
  have HC := Lib.hid hC
  have HG := Lib.hid hg
  clear hT hC hg
  refine (callsIn_wide (n := 9)).1 ?_
  refine callsIn_of_wp_marks Tryd.func40 rfl trivial ?_ rfl
  simp only [Tryd.ntmps40, List.size_toArray, List.length_cons, List.length_nil, Nat.reduceAdd, Nat.reduceSub, Array.replicate_succ, Array.replicate_zero, List.push_toArray, List.append_toArray, List.nil_append, List.cons_append]
  gi_wp2_with fail
  refine wpIn_wide.2 (wp_scope_straight ((wpIn_wide (n := 9)).1 ?_))
  gi_wp2_with fail
  refine ⟨trivial, (callsIn_wide.2 (numbers_any _ m A m.claims.length cap HG.out)).mono ?_⟩
  rintro e w1 ⟨rfl, hb1⟩
  have hbW : Below w.heap.size w w1 := ((Below.refl _ w).alloc (Nat.le_refl _) _).trans (hb1.mono (by simp))
  have hm1 : w1.heap[w.heap.size]? = some (.cells (msgC m A m.claims.length cap) 37 (0, 0)) := (hb1.block _ (by simp)).trans (World.alloc_heap_new w _)
  have HB := Lib.hid hbW
  have HM := Lib.hid hm1
  clear hb1 hbW hm1
  have hk1 : w1.cell? ⟨w.heap.size, 0, none⟩ = some (.int .i64 m.kind) := by rw [blk_cell HM.out]; rfl
  have hf1 : ∀ o, (w1.alloc o).cell? ⟨w.heap.size, 0, none⟩ = some (.int .i64 m.kind) := fun o => ((Kept.refl (fun _ => False) w1).alloc o).cell hk1 id
  gi_wp2_with fail
  refine wpIn_label ?_
  gi_wp2_with fail
  refine ⟨trivial, (callsIn_wide.2 (named_any _ _)).mono ?_⟩
  rintro e w2 ⟨rfl, rfl⟩
  gi_wp2_with fail
  obtain ⟨W0, hW0⟩ : ∃ W0, namedW (w1.alloc (.cells (arr9 (left m [])) 125)) m.kind = W0 := ⟨_, rfl⟩
  have hz : W0.heap.size = w1.heap.size + 2 := by rw [← hW0]; simp [namedW]
  have hzw := HB.out.size
  have hzl := blk_lt HM.out
  have hK0 : Kept (fun _ => False) w1 W0 := by rw [← hW0]; exact ((Kept.refl _ w1).alloc _).alloc _
  have hl0 : W0.heap[w1.heap.size]? = some (.cells (arr9 (left m [])) 125 (0, 0)) := by
    rw [← hW0]
    exact (Below.heap_alloc _ _ _ (by simp)).trans (World.alloc_heap_new w1 _)
  have hc0 : W0.cell? ⟨w1.heap.size + 1, 0, none⟩ = some (.int .i64 m.kind) := by
    rw [← hW0]
    have := namedW_cell (w1.alloc (.cells (arr9 (left m [])) 125)) m.kind
    rwa [World.size_alloc] at this
  have hT0 := (HT.out.below HB.out).kept hK0 id id
  have h0 : ChkI w w1.heap.size m A cap [] W0 := ⟨HB.out.trans (hK0.below (fun _ h => h.elim) hzw), (hK0.block _ hzl id).trans HM.out, hl0, fun x h => by simp at h⟩
  have hW0' : namedW (w1.alloc (.cells #[.int .i64 0, .int .i64 m.cell, .int .i64 (m.gen : Nat), .int .i64 (w64 (m.stamp : Nat)), .int .i64 m.prio, .int .i64 m.hops, .int .i64 m.origin, .int .i64 m.other, .int .i64 (m.claims.length : Nat)] 125)) m.kind = W0 := hW0
  rw [hW0']
  clear hW0 hW0' hK0 hl0 hk1 hf1
  have HC0 := Lib.hid hc0
  have HT0 := Lib.hid hT0
  have HI0 := Lib.hid h0
  clear hc0 hT0 h0
  refine wpIn_rangeFunc_ownG rfl (by omega) (gf := 75) (lb := #[.pointer (some ⟨w1.heap.size + 1, 0, none⟩)]) rfl trivial (enters_of Tryd.func75 (by kernel_rfl) rfl)
    (named_stops (9 - 1) (by omega) HT0.out HC0.out) (fun _ _ => trivial) (fun _ _ _ _ _ _ _ _ => trivial) (Below.refl _ _) (fun _ => rfl)
    (ChkI w w1.heap.size m A cap) (ChkX w w1.heap.size m A cap) (ChkI.from (by omega) (by omega)) (ChkX.from (by omega) (by omega)) HI0.out
    (fun x => { tmps := #[msgA m A m.claims.length cap, .pointer (some ⟨w.heap.size, 0, none⟩), .int .i64 0, .pointer (some ⟨w1.heap.size, 0, none⟩), .int .i64 (x.1 : Nat), msgA m A m.claims.length cap, numA m m.claims.length, .pointer (some ⟨w.heap.size, 0, none⟩), .int .i64 m.kind, .func (.func 75) #[] #[.pointer (some ⟨w1.heap.size + 1, 0, none⟩)], .int .i64 (x.1 : Nat), undef, undef, undef, undef, undef, undef, undef, undef, undef, undef, undef, undef, undef, undef, undef, undef, undef, undef, undef, undef, undef, undef, undef, undef, undef, undef, undef, undef, undef, undef, undef, undef, undef, undef, undef], defers := [] })
    ?assign ?body ?done ?stop
  case assign =>
    intro l x W K hK
    simp only [flV]
    gi_wp2
    exact hK
  case body =>
    rintro l pre x W hI hlen
    have c1 : W.cell? ⟨w1.heap.size, x.1, none⟩ = some (.int .i64 (left m (pre.map (·.1)) x.1)) := by rw [blk_cell hI.2.2.1]; exact arr9_get _ (by have := x.2; omega)
    have hTW : Tab W := HT.out.below hI.1
    have c2 := hTW.rl x.1 (by have := x.2; omega)
    have c3 := hTW.rh x.1 (by have := x.2; omega)
    have hx := x.2
    have c4 := blk_free hI.2.2.1 x.1
    clear hTW
    have HX : Hid (∀ nq, left m (pre.map (·.1)) x.1 < lo x.1 ∨ hi x.1 < left m (pre.map (·.1)) x.1 → KeepsFrom W0.heap.size W (W.drewN nq) ∧ ChkX w w1.heap.size m A cap (.exit 0) (pre ++ [x]) (W.drewN nq)) := fun nq h => chk_exit hI x _ nq h
    have HO : Hid (∀ nq, ¬ (left m (pre.map (·.1)) x.1 < lo x.1 ∨ hi x.1 < left m (pre.map (·.1)) x.1) → KeepsFrom W0.heap.size W ((W.drewN nq).setCell ⟨w1.heap.size, x.1, none⟩ (.int .i64 0)) ∧ True ∧ ChkI w w1.heap.size m A cap (pre ++ [x]) ((W.drewN nq).setCell ⟨w1.heap.size, x.1, none⟩ (.int .i64 0))) := fun nq h => chk_on hI x _ nq (by omega) (by omega) h
    clear hI
    generalize pre ++ [x] = pre2 at *
    generalize left m (pre.map (·.1)) x.1 = v at *
    generalize x.1 = f at *
    generalize lo f = a at *
    generalize hi f = b at *
    by_cases h1 : v < a
    · gi_wp2_with fail
      refine wpIn_quiet_round (by kernel_rfl) (by kernel_rfl) (by kernel_rfl) ?_
      repeat (go_big_quiet_step (fail))
      refine wpQuiet_nil ?_
      intro _ hw'
      obtain ⟨nq, hw''⟩ := hw'
      subst hw''
      gi_wp2
      exact HX.out nq (.inl (by omega))
    · have d1 : decide (v < a) = false := by simpa using h1
      by_cases h2 : b < v
      · have d2 : decide (b < v) = true := by simpa using h2
        gi_wp2_with fail
        refine wpIn_quiet_round (by kernel_rfl) (by kernel_rfl) (by kernel_rfl) ?_
        repeat (go_big_quiet_step (fail))
        refine wpQuiet_nil ?_
        intro _ hw'
        obtain ⟨nq, hw''⟩ := hw'
        subst hw''
        gi_wp2
        exact HX.out nq (.inr (by omega))
      · have d2 : decide (b < v) = false := by simpa using h2
        gi_wp2_with fail
        refine wpIn_quiet_round (by kernel_rfl) (by kernel_rfl) (by kernel_rfl) ?_
        repeat (go_big_quiet_step (fail))
        refine wpQuiet_nil ?_
        intro _ hw'
        obtain ⟨nq, hw''⟩ := hw'
        subst hw''
        gi_wp2
        exact HO.out nq (by omega)
  case done =>
    rintro D xs W hD hS ⟨b1, b2, b3, b4⟩ hK
    have HE := Lib.hid (ok_done hS b4)
    generalize left m (xs.map (·.1)) = f at *
    have k1 : W.cell? ⟨w.heap.size, 0, none⟩ = some (.int .i64 m.kind) := by rw [blk_cell b2]; rfl
    have k2 : W.cell? ⟨w.heap.size, 8, none⟩ = some (.slice A m.claims.length cap) := by rw [blk_cell b2]; rfl
    have HZ : Hid (∀ j, j < 9 → W.cell? ⟨w1.heap.size, j, none⟩ = some (.int .i64 (f j))) := fun j hj => by rw [blk_cell b3]; exact arr9_get f hj
    have HBW := Lib.hid b1
    have HFIN : Hid (∀ W', Below W.heap.size W W' → W'.heap[D]? = some (.deferred (some [])) ∧ Below w.heap.size w (W'.putObj D (.deferred none))) := fun W' hW' => by
      have h1 : W'.heap[D]? = some (.deferred (some [])) := (hW'.block _ (blk_lt hK)).trans hK
      have h2 := b1.size
      exact ⟨h1, (b1.trans (hW'.mono h2)).trans (belowK_b (w := W0) (by omega) W' D _ _ hD h1 rfl rfl)⟩
    clear b1 b2 b3 b4 hS hK
    have z0 := HZ.out 0 (by omega)
    have z1 := HZ.out 1 (by omega)
    have z2 := HZ.out 2 (by omega)
    have z3 := HZ.out 3 (by omega)
    have z4 := HZ.out 4 (by omega)
    have z5 := HZ.out 5 (by omega)
    have z6 := HZ.out 6 (by omega)
    have z7 := HZ.out 7 (by omega)
    have z8 := HZ.out 8 (by omega)
    have h9 : ∀ w', (Op.equalIn 10000 125 (.agg (arr9 f)) (.agg #[.int .i64 0, .int .i64 0, .int .i64 0, .int .i64 0, .int .i64 0, .int .i64 0, .int .i64 0, .int .i64 0, .int .i64 0])).run Tryd.prog w' = .ok (zer f) w' := fun w' => (eq9 (f 0) (f 1) (f 2) (f 3) (f 4) (f 5) (f 6) (f 7) (f 8) 0 0 0 0 0 0 0 0 0 w').trans (by rw [zer_eq])
    gi_wp2_with fail
    refine ⟨trivial, (callsIn_wide.2 (name_any (HT.out.below HBW.out) _)).mono ?_⟩
    rintro e w2 ⟨rfl, rfl⟩
    by_cases hkk : isKind m.kind = true
    · obtain ⟨c, s, hs⟩ := word_some hkk
      rw [hs]
      rw [hkk, Bool.true_and] at HE
      cases hz9 : zer f with
      | false =>
        rw [hz9] at h9 HE
        clear hs
        gi_wp2
        refine ⟨trivial, ?_⟩
        gi_wp2
        rw [Exit.noGoto_ret]
        refine ⟨by simp, .inl ⟨_, _, rfl, run_takeDeferred (HFIN.out _ (Below.refl _ _)).1, ?_⟩⟩
        exact ⟨_, results_tmp rfl _ _ _, by rw [HE.out, Bool.false_and]; rfl, (HFIN.out _ (Below.refl _ _)).2⟩
      | true =>
        rw [hz9] at h9 HE
        clear hs
        gi_wp2_with fail
        refine ⟨trivial, (callsIn_wide.2 (rising_any cap (HC.out.below HBW.out) hl)).mono ?_⟩
        rintro e w3 ⟨rfl, hb3⟩
        cases hri : rise 0 m.claims with
        | false => 
          gi_wp2
          rw [Exit.noGoto_ret]
          refine ⟨by simp, .inl ⟨_, _, rfl, run_takeDeferred (HFIN.out _ hb3).1, ?_⟩⟩
          exact ⟨_, results_tmp rfl _ _ _, by rw [HE.out, hri]; rfl, (HFIN.out _ hb3).2⟩
        | true =>
          gi_wp2
          rw [Exit.noGoto_ret]
          refine ⟨by simp, .inl ⟨_, _, rfl, run_takeDeferred (HFIN.out _ hb3).1, ?_⟩⟩
          exact ⟨_, results_tmp rfl _ _ _, by rw [HE.out, hri]; rfl, (HFIN.out _ hb3).2⟩
    · rw [word_none hkk]
      gi_wp2_with fail
      refine ⟨trivial, ?_⟩
      gi_wp2
      rw [Exit.noGoto_ret]
      refine ⟨by simp, .inl ⟨_, _, rfl, run_takeDeferred (HFIN.out _ (Below.refl _ _)).1, ?_⟩⟩
      exact ⟨_, results_tmp rfl _ _ _, by rw [HE.out, Bool.not_eq_true _ |>.mp hkk, Bool.false_and, Bool.false_and]; rfl, (HFIN.out _ (Below.refl _ _)).2⟩
  case stop =>
    rintro D c pre W hD hS ⟨rfl, b1, b2, f, x, b3, b4, b5, b6⟩ hK
    have HE := Lib.hid (ok_stop hS b4 b5 b6)
    have k1 : W.cell? ⟨w.heap.size, 0, none⟩ = some (.int .i64 m.kind) := by rw [blk_cell b2]; rfl
    have k2 : W.cell? ⟨w.heap.size, 8, none⟩ = some (.slice A m.claims.length cap) := by rw [blk_cell b2]; rfl
    have HZ : Hid (∀ j, j < 9 → W.cell? ⟨w1.heap.size, j, none⟩ = some (.int .i64 (f j))) := fun j hj => by rw [blk_cell b3]; exact arr9_get f hj
    have HBW := Lib.hid b1
    have HFIN : Hid (∀ W', Below W.heap.size W W' → W'.heap[D]? = some (.deferred (some [])) ∧ Below w.heap.size w (W'.putObj D (.deferred none))) := fun W' hW' => by
      have h1 : W'.heap[D]? = some (.deferred (some [])) := (hW'.block _ (blk_lt hK)).trans hK
      have h2 := b1.size
      exact ⟨h1, (b1.trans (hW'.mono h2)).trans (belowK_b (w := W0) (by omega) W' D _ _ hD h1 rfl rfl)⟩
    clear b1 b2 b3 b4 b5 b6 hS hK
    have z0 := HZ.out 0 (by omega)
    have z1 := HZ.out 1 (by omega)
    have z2 := HZ.out 2 (by omega)
    have z3 := HZ.out 3 (by omega)
    have z4 := HZ.out 4 (by omega)
    have z5 := HZ.out 5 (by omega)
    have z6 := HZ.out 6 (by omega)
    have z7 := HZ.out 7 (by omega)
    have z8 := HZ.out 8 (by omega)
    have h9 : ∀ w', (Op.equalIn 10000 125 (.agg (arr9 f)) (.agg #[.int .i64 0, .int .i64 0, .int .i64 0, .int .i64 0, .int .i64 0, .int .i64 0, .int .i64 0, .int .i64 0, .int .i64 0])).run Tryd.prog w' = .ok (zer f) w' := fun w' => (eq9 (f 0) (f 1) (f 2) (f 3) (f 4) (f 5) (f 6) (f 7) (f 8) 0 0 0 0 0 0 0 0 0 w').trans (by rw [zer_eq])
    gi_wp2_with fail
    refine ⟨trivial, (callsIn_wide.2 (name_any (HT.out.below HBW.out) _)).mono ?_⟩
    rintro e w2 ⟨rfl, rfl⟩
    by_cases hkk : isKind m.kind = true
    · obtain ⟨c, s, hs⟩ := word_some hkk
      rw [hs]
      rw [hkk, Bool.true_and] at HE
      cases hz9 : zer f with
      | false =>
        rw [hz9] at h9 HE
        clear hs
        gi_wp2
        refine ⟨trivial, ?_⟩
        gi_wp2
        rw [Exit.noGoto_ret]
        refine ⟨by simp, .inl ⟨_, _, rfl, run_takeDeferred (HFIN.out _ (Below.refl _ _)).1, ?_⟩⟩
        exact ⟨_, results_tmp rfl _ _ _, by rw [HE.out, Bool.false_and]; rfl, (HFIN.out _ (Below.refl _ _)).2⟩
      | true =>
        rw [hz9] at h9 HE
        clear hs
        gi_wp2_with fail
        refine ⟨trivial, (callsIn_wide.2 (rising_any cap (HC.out.below HBW.out) hl)).mono ?_⟩
        rintro e w3 ⟨rfl, hb3⟩
        cases hri : rise 0 m.claims with
        | false => 
          gi_wp2
          rw [Exit.noGoto_ret]
          refine ⟨by simp, .inl ⟨_, _, rfl, run_takeDeferred (HFIN.out _ hb3).1, ?_⟩⟩
          exact ⟨_, results_tmp rfl _ _ _, by rw [HE.out, hri]; rfl, (HFIN.out _ hb3).2⟩
        | true =>
          gi_wp2
          rw [Exit.noGoto_ret]
          refine ⟨by simp, .inl ⟨_, _, rfl, run_takeDeferred (HFIN.out _ hb3).1, ?_⟩⟩
          exact ⟨_, results_tmp rfl _ _ _, by rw [HE.out, hri]; rfl, (HFIN.out _ hb3).2⟩
    · rw [word_none hkk]
      gi_wp2_with fail
      refine ⟨trivial, ?_⟩
      gi_wp2
      rw [Exit.noGoto_ret]
      refine ⟨by simp, .inl ⟨_, _, rfl, run_takeDeferred (HFIN.out _ (Below.refl _ _)).1, ?_⟩⟩
      exact ⟨_, results_tmp rfl _ _ _, by rw [HE.out, Bool.not_eq_true _ |>.mp hkk, Bool.false_and, Bool.false_and]; rfl, (HFIN.out _ (Below.refl _ _)).2⟩
end Go.Proofs.YtfgajjfcjlejmaaDoor
