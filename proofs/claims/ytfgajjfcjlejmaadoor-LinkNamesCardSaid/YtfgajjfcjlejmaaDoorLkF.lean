/-
  A number is met that is new.
-/
import Derived.Test.YtfgajjfcjlejmaaDoorLkE
namespace Go.Proofs.YtfgajjfcjlejmaaDoor
set_option maxRecDepth 100000
set_option linter.unusedSimpArgs false
open Go Go.RowKit Wr
attribute [local go_sem] Oper.semAt_some

theorem wp_calm {P : Program} {c : Code} {Q : Exit → Act → World → Prop} {a : Act} {w : World} (h : c.wp P (Calm Q) a w) : c.wp P Q a w :=
  wp_mono h (fun e a w h => by cases e <;> first | exact h | exact h.elim)
theorem row_succ {w : World} {base : Nat} {e : TypeId} {size : Nat} {v : Value} {n : Nat} {xs : List Value} (h : w.ownsRow base e size v (n + 1) xs) : ∃ g cap, v = .slice (some ⟨g, 0, none⟩) (n + 1) cap := by
  rcases h.2 with ⟨_, h0⟩ | ⟨g, cap, cur, e, _⟩
  · omega
  · exact ⟨g, cap, e⟩
/-- What meeting a number leaves. -/
def MeetQ (w : World) (T S : Nat → Prop) (o N : Nat) (s : Lk.S) (seq : Nat) (m : Msg) (e : Ending) (w' : World) : Prop :=
  ∃ v, e = .returned v ∧ Kept S w w' ∧ LnkAt w' T S o N (Lk.meetS s seq m) ∧ MsgsR w' T w.heap.size v (Lk.meetU s seq m)
/-- The window of a link meets a number. -/
theorem win_meet {w : World} {T S : Nat → Prop} {o N : Nat} {s : Lk.S} (h : LnkAt w T S o N s) (hO : Lk.Ok s) (hZ : TabZ w) (hgz : ¬ T 2) {seq : Nat} (hs : seq ≤ 4294967295) :
    Calls Tryd.prog 72 #[.pointer (some ⟨o, 8, none⟩), .int .u32 (seq : Nat)] w fun e w' => e = .returned (.int .i64 (Wd.code s.l s.e seq : Nat)) ∧ Kept (fun k => k = o) w w' ∧ LnkAt w' T S o N { s with l := Wd.nl s.l s.e seq, e := Wd.ne s.l s.e seq } := by
  obtain ⟨⟨v, E, mb, h1, h2, h3⟩, h4, h5, h6⟩ := id h
  have hW : WinAt w o (fun i => (objL s v mb).getD i undef) s.l s.e := h2
  refine (meet_any hW hO.w hs hZ (fun e => hgz (by rw [← e]; exact h5 _ h4))).mono ?_
  rintro e w' ⟨rfl, a1, a2⟩
  refine ⟨rfl, a2, h.setO (s' := { s with l := Wd.nl s.l s.e seq, e := Wd.ne s.l s.e seq }) a2 rfl rfl (fun v' mb' hv => ?_)⟩
  rw [h2] at hv
  simp only [Option.some.injEq, Obj.cells.injEq, objL, and_true] at hv
  have hv' := congrArg Array.toList hv
  simp at hv'
  obtain ⟨rfl, rfl⟩ := hv'
  exact a1
/-- The map of the early ones without those that were told. -/
def fK (f0 : Nat → Option Msg) (q k : Nat) : Nat → Option Msg := fun n => if q ≤ n ∧ n < q + k then none else f0 n
theorem fK_step (f0 : Nat → Option Msg) (q k : Nat) : (fun n => if n = q + k then none else fK f0 q k n) = fK f0 q (k + 1) := by
  funext n
  unfold fK
  by_cases h1 : n = q + k
  · subst h1; simp
  · rw [if_neg h1]
    by_cases h2 : q ≤ n ∧ n < q + k
    · rw [if_pos h2, if_pos ⟨h2.1, by omega⟩]
    · rw [if_neg h2, if_neg (fun h => h2 ⟨h.1, by omega⟩)]
theorem fK_none (f0 : Nat → Option Msg) (q k x : Nat) (h : fK f0 q k x = none) : (fun n => if n = x then none else fK f0 q k n) = fK f0 q k := by
  funext n
  by_cases h1 : n = x
  · rw [if_pos h1, h1, h]
  · rw [if_neg h1]

set_option maxHeartbeats 8000000 in
theorem lmeet_new {w : World} {T S : Nat → Prop} {o N : Nat} {s : Lk.S} (h : LnkAt w T S o N s) (hO : Lk.Ok s) (hZ : TabZ w) (hgz : ¬ T 2) {seq : Nat} (hs : seq ≤ 4294967295) (hc1 : Wd.code s.l s.e seq = 1) (m : Msg) {A : Option Addr} {cap : Nat} (hC : ClT w T A m.claims cap) (hl : m.claims.length ≤ 100000) (hN : N < 10000000) :
    Calls Tryd.prog 49 #[.pointer (some ⟨o, 6, none⟩), .int .u32 (seq : Nat), msgA m A m.claims.length cap] w (MeetQ w T S o (N + 1) s seq m) := by
  obtain ⟨P, hP⟩ : ∃ P : Ending → World → Prop, P = MeetQ w T S o (N + 1) s seq m := ⟨_, rfl⟩
  obtain ⟨i0, hi, hz0, hz1, hz2⟩ := info_parts Tryd.infoMsg
  -- plain facts
  obtain ⟨hcd0, hcd1, hcd2, hcd3⟩ := Wd.code_one hc1
  have hstep := Wd.step_ok hO.w hs
  obtain ⟨cnt, hcnt⟩ : ∃ cnt, cnt = Lk.newL s seq - s.l := ⟨_, rfl⟩
  have hnl : Lk.newL s seq = s.l + cnt := by have := Wd.nl_ge s.l s.e seq; unfold Lk.newL at *; omega
  have hc64 : cnt ≤ 64 := by have := Wd.nl_le (n := seq) hO.w; unfold Lk.newL at *; omega
  have hq32 : s.l + cnt ≤ 4294967295 := by rw [← hnl]; exact hstep.hl
  obtain ⟨f0, hf0⟩ : ∃ f0, f0 = Lk.upd s.erl seq (some m) := ⟨_, rfl⟩
  obtain ⟨hrun1, hrun2⟩ := hO.run hc1 m
  rw [hnl, ← hf0] at hrun1
  rw [hnl, ← hf0] at hrun2
  have hlow : ∀ n, n ≤ s.l → f0 n = none := by
    intro n hn
    rw [hf0]
    unfold Lk.upd
    rw [if_neg (by omega)]
    have := hO.er n
    rw [decide_eq_false (by omega), Bool.false_and] at this
    simpa using this
  obtain ⟨ml, hml⟩ : ∃ ml, ml = (List.range' (s.l + 1) cnt).map fun n => (f0 n).getD default := ⟨_, rfl⟩
  have hmU : Lk.meetU s seq m = ml := by unfold Lk.meetU; rw [if_pos hc1, hml, hf0, ← hcnt]
  have hmll : ml.length = cnt := by rw [hml]; simp
  have hmlk : ∀ k x, k < cnt → f0 (s.l + 1 + k) = some x → ml.take (k + 1) = ml.take k ++ [x] := by
    intro k x hk hx
    rw [List.take_add_one, List.getElem?_eq_getElem (by rw [hmll]; exact hk)]
    congr 1
    simp only [hml, List.getElem_map, List.getElem_range', Nat.one_mul, hx]
    rfl
  obtain ⟨s2, hs2⟩ : ∃ s2 : Lk.S, s2 = { s with l := Lk.newL s seq, e := Wd.ne s.l s.e seq, erl := f0 } := ⟨_, rfl⟩
  have hfin : Lk.meetS s seq m = { s2 with erl := fK f0 (s.l + 1) cnt } := by
    unfold Lk.meetS
    rw [if_pos hc1, hs2]
    simp only [Lk.S.mk.injEq, true_and, and_true]
    funext n
    rw [hnl, ← hf0]
    unfold fK
    by_cases h1 : n ≤ s.l
    · rw [if_pos (by omega), if_neg (by omega), hlow n h1]
    · by_cases h2 : n ≤ s.l + cnt
      · rw [if_pos h2, if_pos ⟨by omega, by omega⟩]
      · rw [if_neg h2, if_neg (by omega)]
  have hSw : ∀ k, S k → k < w.heap.size := fun k hk => h.lt _ (h.st _ hk)
  have HP : Hid (∀ W uv U v E mb N', Kept S w W → U.map (·.1) = ml → W.ownsRow w.heap.size 37 9 uv U.length (csM U) → (∀ e ∈ U, ClT W T e.2.1 e.1.claims e.2.2) → N' ≤ N + 1 → E.map (·.1) = s2.opn → W.heap[o]? = some (.cells (objL s2 v mb) 102 (0, 0)) → OpnAt W T v E → ErlAt W T mb N' (fK f0 (s.l + 1) cnt) → S mb → mb ≠ o → (∀ g, v.ownBlock = some g → S g ∧ g ≠ o ∧ g ≠ mb) → P (.returned uv) W) := by
    intro W uv U v E mb N' a1 a2 a3 a4 a5 a6 a7 a8 a9 a10 a11 a12
    rw [hP]
    refine ⟨uv, rfl, a1, ?_, U, by rw [hmU]; exact a2, a3, a4⟩
    rw [hfin]
    obtain ⟨g, g1, g2, g3⟩ := a9
    exact ⟨⟨v, E, mb, a6, a7, a8, ⟨g, g1, g2.mono a5, g3⟩, a10, a11, a12⟩, h.so, h.st, fun k hk => Nat.lt_of_lt_of_le (h.lt k hk) a1.size⟩
  rw [← hP]
  clear hP
  have HNX : Hid (∀ x, Calls Tryd.prog 71 #[.pointer (some ⟨o, 8, none⟩)] (w.alloc x) fun e w' => e = .returned (.tuple #[.int .u32 ((s.l + 1 : Nat) : Int), .bool true]) ∧ w' = w.alloc x) := by
    intro x
    obtain ⟨f, hf⟩ := (h.alloc x).win
    exact next_any hf (by omega)
  have HME : Hid (∀ x, Calls Tryd.prog 72 #[.pointer (some ⟨o, 8, none⟩), .int .u32 (seq : Nat)] (w.alloc x) fun e w' => e = .returned (.int .i64 1) ∧ Kept (fun k => k = o) (w.alloc x) w' ∧ LnkAt w' T S o N { s with l := Wd.nl s.l s.e seq, e := Wd.ne s.l s.e seq }) := by
    intro x
    have hb : Below w.heap.size w (w.alloc x) := (Below.refl _ w).alloc (Nat.le_refl _) x
    refine (win_meet (h.alloc x) hO (hZ.below hb) hgz hs).mono ?_
    rintro e w' ⟨rfl, a1, a2⟩
    exact ⟨by rw [hc1]; rfl, a1, a2⟩
  have HVF : Hid (∀ V, V = V → Kept (fun k => k = o) (w.alloc (.cells (msgC m A m.claims.length cap) 37)) V → LnkAt V T S o N { s with l := Wd.nl s.l s.e seq, e := Wd.ne s.l s.e seq } →
      ∃ mb, (Below V.heap.size V V.drew ∧ V.drew.cell? ⟨o, 10, none⟩ = some (.map (some mb)) ∧ V.drew.heap[w.heap.size]? = some (.cells (msgC m A m.claims.length cap) 37 (0, 0))) ∧
        (∀ W, Below V.heap.size V W → Calls Tryd.prog 42 #[msgA m A m.claims.length cap] W fun e w' => ∃ A' cap', e = .returned (msgA m A' m.claims.length cap') ∧ w'.ownsRow V.heap.size 138 2 (.slice A' m.claims.length cap') m.claims.length (csC m.claims) ∧ Below V.heap.size V w') ∧
        (∀ W, Below V.heap.size V W → W.cell? ⟨o, 10, none⟩ = some (.map (some mb)) ∧ W.heap[w.heap.size]? = some (.cells (msgC m A m.claims.length cap) 37 (0, 0))) ∧
        ∀ (w6 : World) (A2 : Option Addr) (cap2 : Nat), Below V.heap.size V w6 → w6.ownsRow V.heap.size 138 2 (.slice A2 m.claims.length cap2) m.claims.length (csC m.claims) →
          ∃ w7, (Instr.mapUpdate 95 (.map (some mb)) (.int .u32 (seq : Nat)) (msgA m A2 m.claims.length cap2)).run Tryd.prog w6 = .ok () w7 ∧ (w7.cell? ⟨o, 10, none⟩ = some (.map (some mb)) ∧ w7.heap[w.heap.size]? = some (.cells (msgC m A m.claims.length cap) 37 (0, 0))) ∧ Kept S w w7 ∧ LnkAt w7 T S o (N + 1) s2) := by
    intro V _ hK hL
    have hbx0 : (w.alloc (.cells (msgC m A m.claims.length cap) 37)).heap[w.heap.size]? = _ := World.alloc_heap_new w _
    have hol := hSw _ h.so
    have hKw : Kept (fun k => k = o) w V := (Kept.of_below (X := fun k => k = o) ((Below.refl _ w).alloc (Nat.le_refl _) _) (Nat.le_refl _)).trans hK (fun _ _ h => h)
    have hbx : V.heap[w.heap.size]? = some (.cells (msgC m A m.claims.length cap) 37 (0, 0)) := (hK.block _ (blk_lt hbx0) (by omega)).trans hbx0
    have hCV : ClT V T A m.claims cap := hC.kept hKw (fun k e => by rw [e]; exact h.st _ h.so)
    have hLk := hL
    obtain ⟨⟨v, E, mb, h1, h2, h3, ⟨g, g1, g2, g3⟩, h5, h6, h7⟩, hso, hst, hlt⟩ := hLk
    have hcl10 : ∀ W, Below V.heap.size V W → W.cell? ⟨o, 10, none⟩ = some (.map (some mb)) ∧ W.heap[w.heap.size]? = some (.cells (msgC m A m.claims.length cap) 37 (0, 0)) := by
      intro W hW
      exact ⟨by rw [blk_cell ((hW.block _ (blk_lt h2)).trans h2)]; rfl, (hW.block _ (blk_lt hbx)).trans hbx⟩
    refine ⟨mb, ⟨(Below.refl _ V).drew, hcl10 _ (Below.refl _ V).drew⟩, fun W hW => ?_, hcl10, ?_⟩
    · refine (mlike_any m (hCV.below hW) hl).mono ?_
      rintro e w' ⟨A3, cap3, rfl, e1, e2⟩
      exact ⟨A3, cap3, rfl, rowB e1 hW.size, hW.trans (e2.mono hW.size)⟩
    · intro w6 A2 cap2 hb6 hr6
      have hm6 : MapV w6 22 litU mb N (fun n => (g n).map enA) := g2.same (hb6.block _ g2.lt)
      obtain ⟨w7, hrun, hm7, hk7⟩ := hm6.put (g := fun n => ((fun i => if i = seq then some ((m, A2, cap2) : En) else g i) n).map enA) u32Keyed Tryd.underlying95 (by omega) (u32_key hs) trivial (enA (m, A2, cap2)) (by simp) (fun y hy => by
        have : y ≠ seq := fun e => hy (by rw [e])
        simp [this]) (fun y hy => Classical.byContradiction fun hn => litU_ne hn hy)
      obtain ⟨c10, cbx⟩ := hcl10 _ hb6
      have hml2 := hlt _ (hst _ h5)
      have hmlw := hSw _ h5
      have hT : ∀ k, k = mb → T k := fun k e => by rw [e]; exact hst _ h5
      have hL6 := hL.below hb6
      have hk6 : Kept S w w6 := (hKw.mono (fun k _ e => by rw [e]; exact h.so)).trans (Kept.of_below (X := S) hb6 (Nat.le_refl _)) (fun _ _ h => h)
      refine ⟨w7, hrun, ⟨hk7.cell c10 (fun e => h6 e.symm), (hk7.block _ (blk_lt cbx) (by omega)).trans cbx⟩, hk6.trans (hk7.mono (fun k _ e => by rw [e]; exact h5)) (fun _ _ h => h), ?_⟩
      have e3 : OpnAt w6 T v E := h3.kept (X := fun _ => False) (Kept.of_below hb6 (Nat.le_refl _)) (fun _ h => h.elim) (fun _ _ => id)
      refine ⟨⟨v, E, mb, by rw [hs2]; exact h1, ?_, e3.kept hk7 hT (fun g hg => (h7 g hg).2.2), ⟨_, fun n => ?_, hm7, fun n e he => ?_⟩, h5, h6, h7⟩, hso, hst, fun k hk => Nat.lt_of_lt_of_le (hlt k hk) (Nat.le_trans hb6.size hk7.size)⟩
      · have ho6 : w6.heap[o]? = _ := (hb6.block _ (blk_lt h2)).trans h2
        rw [hk7.block _ (blk_lt ho6) (fun e => h6 e.symm), ho6, hs2]
        rfl
      · rw [hs2, hf0]
        unfold Lk.upd
        by_cases e : n = seq
        · simp [e]
        · simp only [if_neg e]; exact g1 n
      · by_cases e2 : n = seq
        · simp only [if_pos e2] at he
          cases he
          obtain ⟨A', c', e4, hh⟩ := row_claims hr6
          cases e4
          exact (hh T (fun k hk => hlt k hk)).kept hk7 hT
        · simp only [if_neg e2] at he
          exact ((g3 n e he).below hb6).kept hk7 hT
  have hso := h.so
  have hst := h.st
  have hlt := h.lt
  have hse : s2.erl = f0 := by rw [hs2]
  have hslm : s.l + 1 ≤ 4294967295 := by omega
  clear h hO hZ hgz hs hc1 hC hl hN hcd0 hcd1 hcd2 hcd3 hstep hcnt hnl hf0 hml hmU hs2 hfin
  have HQQ := Lib.hid (And.intro hc64 (And.intro hq32 (And.intro hrun1 (And.intro hrun2 (And.intro hlow (And.intro hmlk (And.intro hmll (And.intro hSw (And.intro hso (And.intro hst (And.intro hlt (And.intro hse hslm))))))))))))
  clear hc64 hq32 hrun1 hrun2 hlow hmlk hmll hSw hso hst hlt hse hslm
  obtain ⟨sl, hsl⟩ : ∃ sl, s.l + 1 = sl := ⟨_, rfl⟩
  rw [hsl] at HNX
  have HSL := Lib.hid hsl
  clear hsl
  obtain ⟨x0, x1, x2, x3, x4, x5, x6, x7, x8⟩ := m
  simp only [msgA, msgC] at HVF HME
  generalize csC x8 = ys at *
  generalize x8.length = L at *
  refine (callsIn_wide (n := 9)).1 ?_
  refine callsIn_of_wp_marks Tryd.func49 rfl trivial ?_ rfl
  simp only [Tryd.ntmps49, List.size_toArray, List.length_cons, List.length_nil, Nat.reduceAdd, Nat.reduceSub, Array.replicate_succ, Array.replicate_zero, List.push_toArray, List.append_toArray, List.nil_append, List.cons_append]
  gi_wp2_with fail
  refine wpIn_wide.2 (wp_scope_straight ?_)
  go_wp2_with fail
  refine (HNX.out _).mono ?_
  rintro e w1 ⟨rfl, hw1⟩
  rw [hw1]
  clear hw1
  go_wp2_with fail
  refine (HME.out _).mono ?_
  rintro e V ⟨rfl, hkV, hLV⟩
  obtain ⟨mb0, hb00, hli, hcl, hpu⟩ := HVF.out V trivial hkV hLV
  have hb0 := hb00.1
  have HLI := Lib.hid hli
  have HSB := Lib.hid hcl
  have HPU := Lib.hid hpu
  have HL4 : Hid (∀ W : World, (W.cell? ⟨o, 10, none⟩ = some (.map (some mb0)) ∧ W.heap[w.heap.size]? = some (.cells #[.int .i64 x0, .int .i64 x1, .int .u32 (x2 : Nat), .int .u64 (x3 : Nat), .int .i64 x4, .int .i64 x5, .int .i64 x6, .int .i64 x7, .slice A L cap] 37 (0, 0))) → W.cell? ⟨o, 10, none⟩ = some (.map (some mb0)) ∧ W.cell? ⟨w.heap.size, 0, none⟩ = some (.int .i64 x0) ∧ W.cell? ⟨w.heap.size, 1, none⟩ = some (.int .i64 x1) ∧ W.cell? ⟨w.heap.size, 2, none⟩ = some (.int .u32 (x2 : Nat)) ∧ W.cell? ⟨w.heap.size, 3, none⟩ = some (.int .u64 (x3 : Nat)) ∧ W.cell? ⟨w.heap.size, 4, none⟩ = some (.int .i64 x4) ∧ W.cell? ⟨w.heap.size, 5, none⟩ = some (.int .i64 x5) ∧ W.cell? ⟨w.heap.size, 6, none⟩ = some (.int .i64 x6) ∧ W.cell? ⟨w.heap.size, 7, none⟩ = some (.int .i64 x7) ∧ W.cell? ⟨w.heap.size, 8, none⟩ = some (.slice A L cap)) := fun W hW => ⟨hW.1, (nine hW.2).1⟩
  clear hli hcl hpu HVF HME HNX hkV hLV
  go_wp2_with fail
  refine wp_calm ?_
  refine wp_region_held_drew (S := fun W => W.cell? ⟨o, 10, none⟩ = some (.map (some mb0)) ∧ W.heap[w.heap.size]? = some (.cells #[.int .i64 x0, .int .i64 x1, .int .u32 (x2 : Nat), .int .u64 (x3 : Nat), .int .i64 x4, .int .i64 x5, .int .i64 x6, .int .i64 x7, .slice A L cap] 37 (0, 0))) (by kernel_rfl) hb00.2 (fun hHeld => ?_)
  simp only [List.size_toArray, List.length_cons, List.length_nil, Nat.reduceAdd, Array.replicate_succ, Array.replicate_zero, List.push_toArray, List.nil_append, List.cons_append, List.append_toArray]
  refine take_op (i := 0) (v := ?_) rfl (by kernel_rfl) (by kernel_rfl) (by kernel_rfl) (fun _ _ _ h => h) (Or.inl ⟨by rfl, ?_⟩) (by assumption) ?_
  rotate_left
  · (intro w' hSw; (try dsimp only at hSw); go_simp; (try with_reducible rfl))
  simp only [Act.put, List.setIfInBounds_toArray, List.set_cons_zero, List.set_cons_succ]
  refine take_op (i := 1) (v := ?_) rfl (by kernel_rfl) (by kernel_rfl) (by kernel_rfl) (fun _ _ _ h => h) (Or.inl ⟨by rfl, ?_⟩) (by assumption) ?_
  rotate_left
  · (intro w' hSw; (try dsimp only at hSw); go_simp; (try with_reducible rfl))
  simp only [Act.put, List.setIfInBounds_toArray, List.set_cons_zero, List.set_cons_succ]
  refine take_op (i := 2) (v := ?_) rfl (by kernel_rfl) (by kernel_rfl) (by kernel_rfl) (fun _ _ _ h => h) (Or.inl ⟨by rfl, ?_⟩) (by assumption) ?_
  rotate_left
  · (intro w' hSw; (try dsimp only at hSw); go_simp; (try with_reducible rfl))
  simp only [Act.put, List.setIfInBounds_toArray, List.set_cons_zero, List.set_cons_succ]
  refine take_op (i := 3) (v := ?_) rfl (by kernel_rfl) (by kernel_rfl) (by kernel_rfl) (fun _ _ _ h => h) (Or.inl ⟨by rfl, ?_⟩) (by assumption) ?_
  rotate_left
  · (intro w' hSw; obtain ⟨q10, q0, q1, q2, q3, q4, q5, q6, q7, q8⟩ := HL4.out _ hSw; go_simp; (try with_reducible rfl))
  simp only [Act.put, List.setIfInBounds_toArray, List.set_cons_zero, List.set_cons_succ]
  refine take_op (i := 4) (v := ?_) rfl (by kernel_rfl) (by kernel_rfl) (by kernel_rfl) (fun _ _ _ h => h) (Or.inl ⟨by rfl, ?_⟩) (by assumption) ?_
  rotate_left
  · (intro w' hSw; (try dsimp only at hSw); go_simp; (try with_reducible rfl))
  simp only [Act.put, List.setIfInBounds_toArray, List.set_cons_zero, List.set_cons_succ]
  refine take_op (i := 5) (v := ?_) rfl (by kernel_rfl) (by kernel_rfl) (by kernel_rfl) (fun _ _ _ h => h) (Or.inl ⟨by rfl, ?_⟩) (by assumption) ?_
  rotate_left
  · (intro w' hSw; obtain ⟨q10, q0, q1, q2, q3, q4, q5, q6, q7, q8⟩ := HL4.out _ hSw; go_simp; (try with_reducible rfl))
  simp only [Act.put, List.setIfInBounds_toArray, List.set_cons_zero, List.set_cons_succ]
  refine wpAnyH_ready (rs := [6]) (by kernel_rfl) (by simp) ?_
  refine cons_op rfl (fun K hK => ?_) AllReadyH.nil
  go_simp
  refine (HLI.out _ hb0).mono ?_
  rintro e w6 ⟨A2, cap2, rfl, hr6, hb6⟩
  have hs6 := HSB.out _ hb6
  (try go_wp2_with fail)
  refine hK.out _ _ hs6 (fun hHeld => ?_)
  clear hK K
  (try simp only [Act.put, List.setIfInBounds_toArray, List.set_cons_zero, List.set_cons_succ])
  refine wpAnyH_ready (rs := [7]) (by kernel_rfl) (by simp) ?_
  refine cons_op rfl (fun K hK => ?_) AllReadyH.nil
  obtain ⟨w7, hpu, hs7, hk7, hL7⟩ := HPU.out _ _ _ hb6 hr6
  go_simp
  refine hK.out _ _ hs7 (fun hHeld => ?_)
  clear hK K
  (try simp only [Act.put, List.setIfInBounds_toArray, List.set_cons_zero, List.set_cons_succ])
  refine wpAnyH_done (by kernel_rfl) ?_ _
  skip
  simp only [Calm]
  clear hr6 hb6 hs6 hs7 hpu HL4 HPU HSB HLI hb0 hb00
  go_wp2_with fail
  go_step3
  go_wp2_with fail
  refine (from_any _ _ _).mono ?_
  rintro e W0 ⟨rfl, hW0'⟩
  have HW0 := Lib.hid hW0'
  clear hW0'
  go_wp2_with fail
  have hW0 := HW0.out
  clear HW0
  obtain ⟨hc64, hq32, hrun1, hrun2, hlow, hmlk, hmll, hSw, hso, hst, hlt, hse, hslm⟩ := HQQ.out
  have hsl := HSL.out
  rw [hsl] at hmlk
  have hz7 := hk7.size
  obtain ⟨bu, hbu⟩ : ∃ bu, w7.heap.size = bu := ⟨_, rfl⟩
  have hsz0 : W0.heap.size = bu + 3 := by rw [hW0, ← hbu]; simp only [World.size_alloc]
  have hk0 : Kept (fun _ => False) w7 W0 := by rw [hW0]; exact (((Kept.refl (fun _ => False) w7).alloc _).alloc _).alloc _
  have hcu : W0.heap[bu]? = some (.cells #[.slice none 0 0] 50 (0, 0)) := by
    rw [hW0, ← hbu, Below.heap_alloc _ _ _ (by simp only [World.size_alloc]; omega), Below.heap_alloc _ _ _ (by simp only [World.size_alloc]; omega)]; exact World.alloc_heap_new w7 _
  have hcs : W0.heap[bu + 1]? = some (.cells #[.pointer (some ⟨o, 6, none⟩)] 141 (0, 0)) := by
    rw [hW0, ← hbu, Below.heap_alloc _ _ _ (by simp)]
    have := World.alloc_heap_new (w7.alloc (.cells #[.slice none 0 0] 50)) (.cells #[.pointer (some ⟨o, 6, none⟩)] 141)
    rw [World.size_alloc] at this
    exact this
  have hcn : W0.cell? ⟨bu + 1 + 1, 0, none⟩ = some (.int .u32 (sl : Nat)) := by
    have := World.alloc_heap_new ((w7.alloc (.cells #[.slice none 0 0] 50)).alloc (.cells #[.pointer (some ⟨o, 6, none⟩)] 141)) (.cells #[.int .u32 (sl : Nat)] 22)
    rw [World.size_alloc, World.size_alloc, hbu] at this
    rw [hW0, blk_cell this]; rfl
  rw [hbu]
  rw [hbu] at hz7
  obtain ⟨⟨v, E, mb, p1, p2, p3, p4, p5, p6, p7⟩, _, _, p8⟩ := hL7
  obtain ⟨T2, hT2⟩ : ∃ T2 : Nat → Prop, T2 = fun k => T k ∨ k = bu ∨ W0.heap.size ≤ k := ⟨_, rfl⟩
  have hH : MH w W0 T2 S o mb bu (bu + 1) v := ⟨fun k hk => by rw [hT2]; exact .inr (.inr hk), by rw [hT2]; exact .inr (.inl rfl), fun k hk => by rw [hT2]; exact .inl (hst k hk), hSw, hz7, by omega, by omega, by omega, by omega, hso, p5, p6, p7⟩
  have hT7 : ∀ k, k < w7.heap.size → T2 k → T k := by
    intro k hk h
    rw [hT2] at h
    rcases h with h | h | h
    · exact h
    · omega
    · omega
  have hI0 : MI w W0 T2 S o mb bu (bu + 1) (N + 1) v E s2 (fK f0 sl 0) (.slice none 0 0) [] W0 := by
    have hf : fK f0 sl 0 = f0 := by funext n; unfold fK; rw [if_neg (by omega)]
    rw [hf, ← hse]
    exact ⟨hk7.trans hk0 (fun _ _ h => h.elim), Nat.le_refl _, (hk0.block _ (blk_lt p2) id).trans p2, (p3.more hT7).kept hk0 (fun _ h => h.elim) (fun _ _ => id), (p4.more hT7).kept hk0 (fun _ h => h.elim) id, hcs, hcu, World.ownsRow_nil _ _ _ _, fun e he => by cases he⟩
  clear hk0 hcu hcs hbu hW0 p2 p3 p4 hk7
  refine (wpIn_wide (n := 9)).1 ?_
  refine arange_run (gf := 79) (lb := #[.pointer (some ⟨bu + 1 + 1, 0, none⟩), .pointer (some ⟨bu + 1, 0, none⟩)]) rfl (enters_of Tryd.func79 (by kernel_rfl) rfl) (.exit 0) ?_
  intro fn rec W1 hrec hW1
  obtain ⟨D, hD⟩ : ∃ D, W0.heap.size = D := ⟨_, rfl⟩
  have hD1 : W1.heap[D]? = some (.deferred (some [])) := by
    rw [hW1, ← hD]; exact (Below.heap_alloc _ _ _ (by simp)).trans (World.alloc_heap_new _ _)
  have hL1 : W1.heap[D + 1]? = some (.loop (rec .ready none)) := by
    rw [hW1, ← hD]; have := World.alloc_heap_new (W0.alloc (.deferred (some []))) (.loop (rec .ready none)); simpa only [World.size_alloc] using this
  have hI1 : MI w W0 T2 S o mb bu (bu + 1) (N + 1) v E s2 (fK f0 sl 0) (.slice none 0 0) [] W1 := by rw [hW1]; exact (hI0.alloc hH _).alloc hH _
  have hcn1 : W1.cell? ⟨bu + 1 + 1, 0, none⟩ = some (.int .u32 (sl : Nat)) := by rw [hW1]; exact Lib.cell?_alloc_some _ (Lib.cell?_alloc_some _ hcn)
  clear hW1 hI0 hcn
  rw [hD]
  have hDz : D = bu + 3 := by omega
  refine (from_run (9 - 1) (D + 1) (bu + 1 + 1) (bu + 1) o mb sl cnt (N + 1)
    (J := fun k V => ∃ uv U, U.map (·.1) = ml.take k ∧ MI w W0 T2 S o mb bu (bu + 1) (N + 1) v E s2 (fK f0 sl k) uv U V ∧ V.heap[D]? = some (.deferred (some [])) ∧ V.heap[D + 1]? = some (.loop (rec .ready none)))
    (J' := fun k e V => ∃ uv U, U.map (·.1) = ml.take k ∧ MI w W0 T2 S o mb bu (bu + 1) (N + 1) v E s2 (fK f0 sl (k + 1)) uv U V ∧ V.heap[D]? = some (.deferred (some [])) ∧ V.heap[D + 1]? = some (.loop (rec .ready none)) ∧ ClT V T2 e.2.1 e.1.claims e.2.2 ∧ ml.take (k + 1) = ml.take k ++ [e.1])
    (Jl := fun V => ∃ uv U, U.map (·.1) = ml ∧ MI w W0 T2 S o mb bu (bu + 1) (N + 1) v E s2 (fK f0 sl cnt) uv U V ∧ V.heap[D]? = some (.deferred (some [])) ∧ V.heap[D + 1]? = some (.loop (rec .ready none)))
    (Jx := fun V => ∃ uv U, U.map (·.1) = ml ∧ MI w W0 T2 S o mb bu (bu + 1) (N + 1) v E s2 (fK f0 sl cnt) uv U V ∧ V.heap[D]? = some (.deferred (some [])) ∧ V.heap[D + 1]? = some (.loop (rec .done (some (.exit 0)))))
    (by omega) (by omega) hc64 (by omega) (by omega) ?_ ?_ ?_ hcn1 ⟨_, _, rfl, hI1, hD1, hL1⟩).mono ?_
  · rintro k V ⟨uv, U, hU, hI, hVD, hVL⟩ hk
    have hmb := hI.erl
    obtain ⟨g, g1, g2, g3⟩ := hmb
    have hml1 := g2.lt
    have hmw := hSw _ p5
    have hkb : ∀ W2 x, Kept (fun i => i = mb) (V.alloc x) W2 → W2.heap[D]? = some (.deferred (some [])) ∧ W2.heap[D + 1]? = some (.loop (rec .ready none)) := fun W2 x hk2 => by
      have hv1 := blk_lt hVD
      have hv2 := blk_lt hVL
      exact ⟨(hk2.block D (by simp; omega) (by omega)).trans ((Below.heap_alloc _ _ _ hv1).trans hVD), (hk2.block (D + 1) (by simp; omega) (by omega)).trans ((Below.heap_alloc _ _ _ hv2).trans hVL)⟩
    refine ⟨⟨by rw [blk_cell hI.bsc]; rfl, by rw [blk_cell hI.obj]; rfl, by omega, fun e => p6 e.symm⟩, g, g2, fun hkc => ?_, fun hkc => ?_⟩
    · have hnk : numK sl k = sl + k := by unfold numK; exact Nat.mod_eq_of_lt (by omega)
      rw [hnk]
      have hfk : fK f0 sl k (sl + k) = f0 (sl + k) := by unfold fK; rw [if_neg (by omega)]
      have hs1 := hrun1 (sl + k) (by omega) (by omega)
      have hg1 := g1 (sl + k)
      rw [hfk] at hg1
      obtain ⟨e, he⟩ : ∃ e, g (sl + k) = some e := by
        cases hgs : g (sl + k) with
        | none => rw [hgs] at hg1; rw [← hg1] at hs1; cases hs1
        | some e => exact ⟨e, rfl⟩
      refine ⟨e, he, fun W2 x hk2 hm2 => ?_⟩
      obtain ⟨hI2, hc2⟩ := hI.own hH g1 g3 x (sl + k) hk2 hm2
      rw [fK_step] at hI2
      refine ⟨uv, U, hU, hI2, (hkb W2 x hk2).1, (hkb W2 x hk2).2, hc2 _ e he, hmlk k e.1 hkc ?_⟩
      rw [← hg1, he]; rfl
    · subst hkc
      have hfn : fK f0 sl k (numK sl k) = none := by
        unfold fK
        have hcs : numK sl k = sl + k ∨ numK sl k = 0 := by
          unfold numK
          by_cases h1 : sl + k < 4294967296
          · exact .inl (Nat.mod_eq_of_lt h1)
          · have : sl + k = 4294967296 := by omega
            rw [this]; exact .inr rfl
        split
        · rfl
        · rcases hcs with e | e
          · rw [e]
            have : sl + k = s.l + k + 1 := by omega
            rw [this]; exact hrun2
          · rw [e]; exact hlow 0 (by omega)
      have hgn : g (numK sl k) = none := by
        have := g1 (numK sl k)
        rw [hfn] at this
        simpa using this
      refine ⟨hgn, fun W2 x hk2 hm2 => ?_⟩
      obtain ⟨hI2, _⟩ := hI.own hH g1 g3 x (numK sl k) hk2 hm2
      rw [fK_none _ _ _ _ hfn] at hI2
      exact ⟨uv, U, by rw [hU]; exact List.take_of_length_le (by omega), hI2, (hkb W2 x hk2).1, (hkb W2 x hk2).2⟩
  · rintro k e V ⟨uv, U, hU, hI, hVD, hVL, hce, hmk⟩ hkc
    obtain ⟨⟨e0, e1, e2, e3, e4, e5, e6, e7, e8⟩, Ae, ce⟩ := e
    have hL0 := hVL
    rw [hrec] at hL0
    have hy := run_yield (P := Tryd.prog) (args := #[.agg #[.int .i64 e0, .int .i64 e1, .int .u32 (e2 : Nat), .int .u64 (e3 : Nat), .int .i64 e4, .int .i64 e5, .int .i64 e6, .int .i64 e7, .slice Ae e8.length ce], .bool true]) hL0 rfl
    refine ⟨fn, _, _, _, hy, roundIn_of_wpIn trivial ?_⟩
    obtain ⟨Wb, hWb⟩ : ∃ Wb, (V.alloc (.cells #[.int .i64 e0, .int .i64 e1, .int .u32 (e2 : Nat), .int .u64 (e3 : Nat), .int .i64 e4, .int .i64 e5, .int .i64 e6, .int .i64 e7, .slice Ae e8.length ce] 37)).putObj (D + 1) (.loop (rec .busy none)) = Wb := ⟨_, rfl⟩
    have hla : (V.alloc (.cells #[.int .i64 e0, .int .i64 e1, .int .u32 (e2 : Nat), .int .u64 (e3 : Nat), .int .i64 e4, .int .i64 e5, .int .i64 e6, .int .i64 e7, .slice Ae e8.length ce] 37)).heap[D + 1]? = some (.loop (rec .ready none)) := (Below.heap_alloc _ _ _ (blk_lt hVL)).trans hVL
    have hbg : (Instr.beginRound (D + 1)).run Tryd.prog (V.alloc (.cells #[.int .i64 e0, .int .i64 e1, .int .u32 (e2 : Nat), .int .u64 (e3 : Nat), .int .i64 e4, .int .i64 e5, .int .i64 e6, .int .i64 e7, .slice Ae e8.length ce] 37)) = .ok () Wb := by
      rw [hrec] at hla
      rw [← hWb, hrec]; exact run_beginRound hla rfl
    have hDV := blk_lt hVD
    have hLV := blk_lt hVL
    have hLb : Wb.heap[D + 1]? = some (.loop (rec .busy none)) := by rw [← hWb]; exact World.putObj_heap_same (blk_lt hla)
    have hDb : Wb.heap[D]? = some (.deferred (some [])) := by rw [← hWb]; exact (World.putObj_heap_other (by omega)).trans ((Below.heap_alloc _ _ _ hDV).trans hVD)
    have hIb : MI w W0 T2 S o mb bu (bu + 1) (N + 1) v E s2 (fK f0 sl (k + 1)) uv U Wb := by rw [← hWb]; exact (hI.alloc hH _).put hH (by omega) hla rfl _
    have hbx : Wb.heap[V.heap.size]? = some (.cells #[.int .i64 e0, .int .i64 e1, .int .u32 (e2 : Nat), .int .u64 (e3 : Nat), .int .i64 e4, .int .i64 e5, .int .i64 e6, .int .i64 e7, .slice Ae e8.length ce] 37 (0, 0)) := by rw [← hWb]; exact (World.putObj_heap_other (by omega)).trans (World.alloc_heap_new V _)
    have hceb : ClT Wb T2 Ae e8 ce := by
      rw [← hWb]
      exact (hce.below ((Below.refl _ V).alloc (Nat.le_refl _) _)).kept (kept_put _ (D + 1) _) (fun k e => by rw [e]; exact hH.t0 _ (by omega))
    have HE : Hid (∀ W5 v', MI w W0 T2 S o mb bu (bu + 1) (N + 1) v E s2 (fK f0 sl (k + 1)) v' (U ++ [(⟨e0, e1, e2, e3, e4, e5, e6, e7, e8⟩, Ae, ce)]) W5 → W5.heap[D]? = some (.deferred (some [])) → W5.heap[D + 1]? = some (.loop (rec .busy none)) →
        ∃ z w', (Instr.endRound (D + 1) none).run Tryd.prog W5 = .ok z w' ∧ (Ending.returned z = .returned (.bool true) ∧ ∃ uv U, U.map (·.1) = ml.take (k + 1) ∧ MI w W0 T2 S o mb bu (bu + 1) (N + 1) v E s2 (fK f0 sl (k + 1)) uv U w' ∧ w'.heap[D]? = some (.deferred (some [])) ∧ w'.heap[D + 1]? = some (.loop (rec .ready none)))) := by
      intro W5 v' a1 a2 a3
      have hL3 := a3
      rw [hrec] at hL3
      have he := run_endRound (P := Tryd.prog) none hL3
      refine ⟨_, _, he, rfl, v', _, by rw [List.map_append, hU, hmk]; rfl, a1.put hH (by omega) hL3 rfl _, (World.putObj_heap_other (by omega)).trans a2, ?_⟩
      rw [World.putObj_heap_same (blk_lt hL3), hrec]; rfl
    have HPS : Hid (∀ (x : Obj) (W4 : World) (v' : Value), (Wb.alloc x).grownBy W4 uv.ownBlock → W4.ownsRow W0.heap.size 37 9 v' (U.length + 1) (csM U ++ [.int .i64 e0, .int .i64 e1, .int .u32 (e2 : Nat), .int .u64 (e3 : Nat), .int .i64 e4, .int .i64 e5, .int .i64 e6, .int .i64 e7, .slice Ae e8.length ce]) →
        (W4.cell? ⟨bu, 0, none⟩ = some uv ∧ W4.frozen? ⟨bu, 0, none⟩ = false) ∧ ∃ z w', (Instr.endRound (D + 1) none).run Tryd.prog (W4.setCell ⟨bu, 0, none⟩ v') = .ok z w' ∧ (Ending.returned z = .returned (.bool true) ∧ ∃ uv U, U.map (·.1) = ml.take (k + 1) ∧ MI w W0 T2 S o mb bu (bu + 1) (N + 1) v E s2 (fK f0 sl (k + 1)) uv U w' ∧ w'.heap[D]? = some (.deferred (some [])) ∧ w'.heap[D + 1]? = some (.loop (rec .ready none)))) := by
      intro x W4 v' b1 b2
      obtain ⟨c1, c2, c3⟩ := hIb.push hH (e := (⟨e0, e1, e2, e3, e4, e5, e6, e7, e8⟩, Ae, ce)) hceb b1 b2
      exact ⟨c1, HE.out _ v' c2 (c3 _ _ hDb rfl) (c3 _ _ hLb rfl)⟩
    have HROW : Hid (Wb.ownsRow W0.heap.size 37 9 uv U.length (csM U)) := hIb.row
    have hUl : U.length ≤ 64 := by have := congrArg List.length hU; simp at this; omega
    have hbs : W0.heap.size ≤ Wb.heap.size := hIb.sz
    have HNe := Lib.hid (World.news_of_block (heap_alloc_new Wb (.cells #[.int .i64 e0, .int .i64 e1, .int .u32 (e2 : Nat), .int .u64 (e3 : Nat), .int .i64 e4, .int .i64 e5, .int .i64 e6, .int .i64 e7, .slice Ae e8.length ce] 37)))
    obtain ⟨⟨q0, q1, q2, q3, q4, q5, q6, q7, q8⟩, _⟩ := nine hbx
    have qu : Wb.cell? ⟨bu, 0, none⟩ = some uv := by rw [blk_cell hIb.buc]; rfl
    have HBG := Lib.hid hbg
    clear hbg hy hI hVD hVL hL0 hla hWb hLb hDb hIb hbx hceb hce hmk hkc hU hDV hLV HE hrec hD1 hL1 hI1 hcn1 hDz hH hD HP HQQ HSL hrun1 hrun2 hlow hmlk hmll hSw hst hlt hse hsl hz7 hsz0 hc64 hq32 hslm p1 p5 p6 p7 p8 hT7 hT2
    generalize U.length = NU at *
    generalize csM U = xu at *
    generalize e8.length = Le at *
    gi_wp2
    refine ⟨Wb, HBG.out, ?_⟩
    gi_wp2_with (gi_at_builtin; refine wpListIn_append_own_at _ rfl _ _ 50 rfl W0.heap.size 37 i0 zeroMsg 9 88 Tryd.underlying50 hi hz0 hz1 hz2 rfl (by decide) _ NU _ rfl (HROW.out.alloc _) ⟨Wb.heap.size, 0, none⟩ 1 1 [.int .i64 e0, .int .i64 e1, .int .u32 (e2 : Nat), .int .u64 (e3 : Nat), .int .i64 e4, .int .i64 e5, .int .i64 e6, .int .i64 e7, .slice Ae Le ce] rfl rfl HNe.out (by intro u hu; simp at hu; rcases hu with rfl | rfl | rfl | rfl | rfl | rfl | rfl | rfl | rfl <;> rfl) (by unfold maxLen; omega) (by omega) (by simp; omega) ?_; intro v' W4 hown' hgrow _ _; obtain ⟨g', cap', rfl⟩ := row_succ hown'; obtain ⟨⟨hq1, hq2⟩, hq3⟩ := HPS.out _ _ _ hgrow hown'; have HZ := Lib.hid hq3; clear hown' hgrow hq3)
    exact HZ.out
  · rintro V ⟨uv, U, hU, hI, hVD, hVL⟩
    have hL0 := hVL
    rw [hrec] at hL0
    have hy := run_yield (P := Tryd.prog) (args := #[.agg #[.int .i64 0, .int .i64 0, .int .u32 0, .int .u64 0, .int .i64 0, .int .i64 0, .int .i64 0, .int .i64 0, .slice none 0 0], .bool false]) hL0 rfl
    refine ⟨fn, _, _, _, hy, roundIn_of_wpIn trivial ?_⟩
    obtain ⟨Wb, hWb⟩ : ∃ Wb, (V.alloc (.cells #[.int .i64 0, .int .i64 0, .int .u32 0, .int .u64 0, .int .i64 0, .int .i64 0, .int .i64 0, .int .i64 0, .slice none 0 0] 37)).putObj (D + 1) (.loop (rec .busy none)) = Wb := ⟨_, rfl⟩
    have hla : (V.alloc (.cells #[.int .i64 0, .int .i64 0, .int .u32 0, .int .u64 0, .int .i64 0, .int .i64 0, .int .i64 0, .int .i64 0, .slice none 0 0] 37)).heap[D + 1]? = some (.loop (rec .ready none)) := (Below.heap_alloc _ _ _ (blk_lt hVL)).trans hVL
    have hbg : (Instr.beginRound (D + 1)).run Tryd.prog (V.alloc (.cells #[.int .i64 0, .int .i64 0, .int .u32 0, .int .u64 0, .int .i64 0, .int .i64 0, .int .i64 0, .int .i64 0, .slice none 0 0] 37)) = .ok () Wb := by
      rw [hrec] at hla
      rw [← hWb, hrec]; exact run_beginRound hla rfl
    have hDV := blk_lt hVD
    have hLV := blk_lt hVL
    have hLb : Wb.heap[D + 1]? = some (.loop (rec .busy none)) := by rw [← hWb]; exact World.putObj_heap_same (blk_lt hla)
    have hDb : Wb.heap[D]? = some (.deferred (some [])) := by rw [← hWb]; exact (World.putObj_heap_other (by omega)).trans ((Below.heap_alloc _ _ _ hDV).trans hVD)
    have hIb : MI w W0 T2 S o mb bu (bu + 1) (N + 1) v E s2 (fK f0 sl cnt) uv U Wb := by rw [← hWb]; exact (hI.alloc hH _).put hH (by omega) hla rfl _
    have hbx : Wb.heap[V.heap.size]? = some (.cells #[.int .i64 0, .int .i64 0, .int .u32 0, .int .u64 0, .int .i64 0, .int .i64 0, .int .i64 0, .int .i64 0, .slice none 0 0] 37 (0, 0)) := by rw [← hWb]; exact (World.putObj_heap_other (by omega)).trans (World.alloc_heap_new V _)
    have HE : Hid (∃ z w', (Instr.endRound (D + 1) (some (.exit 0))).run Tryd.prog Wb = .ok z w' ∧ (Ending.returned z = .returned (.bool false) ∧ ∃ uv U, U.map (·.1) = ml ∧ MI w W0 T2 S o mb bu (bu + 1) (N + 1) v E s2 (fK f0 sl cnt) uv U w' ∧ w'.heap[D]? = some (.deferred (some [])) ∧ w'.heap[D + 1]? = some (.loop (rec .done (some (.exit 0)))))) := by
      have hL3 := hLb
      rw [hrec] at hL3
      have he := run_endRound (P := Tryd.prog) (some (.exit 0)) hL3
      refine ⟨_, _, he, rfl, uv, U, hU, hIb.put hH (by omega) hL3 rfl _, (World.putObj_heap_other (by omega)).trans hDb, ?_⟩
      rw [World.putObj_heap_same (blk_lt hL3), hrec]; rfl
    have HBG := Lib.hid hbg
    clear hbg hy hI hVD hVL hL0 hla hWb hLb hDb hIb hbx hU hDV hLV hrec hD1 hL1 hI1 hcn1 hDz hH hD HP HQQ HSL hrun1 hrun2 hlow hmlk hmll hSw hst hlt hse hsl hz7 hsz0 hc64 hq32 hslm p1 p5 p6 p7 p8 hT7 hT2
    gi_wp2
    refine ⟨Wb, HBG.out, ?_⟩
    gi_wp2
    exact HE.out
  · rintro e W2 ⟨hv, uv, U, hU, hI, hVD, hVL⟩
    refine ⟨hv, hVL, ?_⟩
    have hI3 := hI.put hH (l := D + 1) (by omega) hVL rfl (.loop (rec .exhausted (some (.exit 0))))
    have hD3 : (W2.putObj (D + 1) (.loop (rec .exhausted (some (.exit 0))))).heap[D]? = some (.deferred (some [])) := (World.putObj_heap_other (by omega)).trans hVD
    generalize W2.putObj (D + 1) (.loop (rec .exhausted (some (.exit 0)))) = W3 at *
    have hc3 : W3.cell? ⟨bu, 0, none⟩ = some uv := by rw [blk_cell hI3.buc]; rfl
    have hI4 := hI3.put hH (l := D) (by omega) hD3 rfl (.deferred none)
    have hTT : ∀ k, k < (W3.putObj D (.deferred none)).heap.size → T k → T2 k := fun k _ h => by rw [hT2]; exact .inl h
    have HF : Hid (P (.returned uv) (W3.putObj D (.deferred none))) := HP.out _ uv U v E mb (N + 1) hI4.kp hU (rowB hI4.row (by omega)) (fun e he => (hI4.cl e he).more hTT) (Nat.le_refl _) p1 hI4.obj (hI4.opn.more hTT) (by rw [hsl]; exact hI4.erl.more hTT) p5 p6 p7
    have hd3 := Lib.hid hD3
    clear hv hI hVD hVL hI3 hD3 hI4 hTT hrec hD1 hL1 hI1 hcn1 hDz hH HP HQQ HSL hrun1 hrun2 hlow hmlk hmll hSw hst hlt hse hsl hz7 hsz0 hc64 hq32 hslm p1 p5 p6 p7 p8 hT7 hT2 hU
    gi_wp2
    go_wp2
    rw [Exit.noGoto_ret]
    refine ⟨by simp, .inl ⟨_, _, rfl, run_takeDeferred hd3.out, ?_⟩⟩
    exact ⟨uv, results_tmp (fn := Tryd.f49) (t := 6) rfl _ _ _, HF.out⟩
end Go.Proofs.YtfgajjfcjlejmaaDoor
