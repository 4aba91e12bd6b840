/-
  Tick, with messages.
-/
import Derived.Test.YtfgajjfcjlejmaaDoorLkP
namespace Go.Proofs.YtfgajjfcjlejmaaDoor
set_option maxRecDepth 100000
set_option linter.unusedSimpArgs false
open Go Go.RowKit Wr
attribute [local go_sem] Oper.semAt_some

theorem new_cells15 (w : World) (a b c d e f g h i j k l m n p : Value) {B : Nat} {t : TypeId} (hB : B = w.heap.size) : ∀ q u, [a, b, c, d, e, f, g, h, i, j, k, l, m, n, p][q]? = some u → (w.alloc (.cells #[a, b, c, d, e, f, g, h, i, j, k, l, m, n, p] t)).cell? ((⟨B, 0, none⟩ : Addr).add q) = some u := by
  subst hB
  exact World.news_of_block (heap_alloc_new w _)
/-- What is gathered. -/
def TkW (w : World) (l : List Pkt) (k : Nat) (v : Value) (W : World) : Prop :=
  Below w.heap.size w W ∧ ∃ E : List PEn, E.map (·.1) = l.take k ∧ W.ownsRow w.heap.size 39 15 v E.length (csP E) ∧ ∀ e ∈ E, W.ownsRow w.heap.size 138 2 (PEn.v e) e.1.msg.claims.length (csC e.1.msg.claims)
theorem TkW.push {w W W1 W3 : World} {x : Obj} {l : List Pkt} {k : Nat} {v v' : Value} {p : Pkt} {A' : Option Addr} {cap' : Nat} (hI : TkW w l k v W) (hp : l[k]? = some p) (hb1 : Below W.heap.size W W1) (hr1 : W1.ownsRow W.heap.size 138 2 (.slice A' p.msg.claims.length cap') p.msg.claims.length (csC p.msg.claims)) (hg : (W1.alloc x).grownBy W3 v.ownBlock) (E : List PEn) (hmE : E.map (·.1) = l.take k) (hrE : W.ownsRow w.heap.size 39 15 v E.length (csP E)) (hcl : ∀ e ∈ E, W.ownsRow w.heap.size 138 2 (PEn.v e) e.1.msg.claims.length (csC e.1.msg.claims)) (hr3 : W3.ownsRow w.heap.size 39 15 v' (E.length + 1) (csP E ++ pkC p (.slice A' p.msg.claims.length cap'))) : TkW w l (k + 1) v' W3 := by
  have hbx : Below W.heap.size W (W1.alloc x) := hb1.alloc hb1.size x
  have hkv : ∀ g, v.ownBlock = some g → w.heap.size ≤ g := fun g e => (hrE.lt g e).1
  have hk3 : Kept (fun k => v.ownBlock = some k) (W1.alloc x) W3 := (Kept.refl (fun k => v.ownBlock = some k) _).grown hg (fun k e => .inl e)
  have hrEx : (W1.alloc x).ownsRow w.heap.size 39 15 v E.length (csP E) := owns_below hrE hbx (Nat.le_refl _)
  refine ⟨(hI.1.trans (hbx.mono hI.1.size)).trans (hk3.below (fun k e => hkv k e) (Nat.le_trans hI.1.size hbx.size)), E ++ [(p, A', cap')], ?_, ?_, fun e he => ?_⟩
  · rw [List.map_append, hmE, List.take_add_one, hp]; rfl
  · rw [csP_append, List.length_append]
    have : csP [(p, A', cap')] = pkC p (.slice A' p.msg.claims.length cap') := by simp [csP, PEn.v]
    rw [this]
    exact hr3
  · rcases List.mem_append.1 he with he | he
    · have h1 := owns_below (hcl e he) hbx (Nat.le_refl _)
      exact hk3.row h1 (row_ne h1 hrEx (by decide))
    · rw [List.mem_singleton] at he; subst he
      have h1 := owns_below (rowB hr1 hI.1.size) ((Below.refl _ W1).alloc (Nat.le_refl _) x) (Nat.le_refl _)
      exact hk3.row h1 (row_ne h1 hrEx (by decide))
/-- What a round of Tick needs of the link. -/
structure TkL (V : World) (o : Nat) (A : Option Addr) (L : Nat) (s : Lk.S) (l : List Pkt) : Prop where
  el : ∀ k, k < L → ∃ g Ak ck, A = some ⟨g, 0, none⟩ ∧ ∀ W, Below V.heap.size V W → MsgCells W g (k * 9) (s.opn.getD k default) Ak ck ∧
    (∀ W', Below W.heap.size W W' → Calls Tryd.prog 43 #[.pointer (some ⟨o, 0, none⟩), .int .u32 ((Lk.ackd s + 1 + k : Nat) : Int), msgA (s.opn.getD k default) Ak (s.opn.getD k default).claims.length ck] W' fun e w' => ∃ A' cap', e = .returned (pktA (Lk.mk s (Lk.ackd s + 1 + k) (s.opn.getD k default)) A' (s.opn.getD k default).claims.length cap') ∧ Below W.heap.size W w' ∧ w'.ownsRow W.heap.size 138 2 (.slice A' (s.opn.getD k default).claims.length cap') (s.opn.getD k default).claims.length (csC (s.opn.getD k default).claims)) ∧
    (∀ W', Below W.heap.size W W' → Calls Tryd.prog 55 #[.pointer (some ⟨o, 6, none⟩)] W' fun e w' => e = .returned (.int .u32 (Lk.ackd s : Nat)) ∧ Below W.heap.size W w')
  li : ∀ k, k < L → l[k]? = some (Lk.mk s (Lk.ackd s + 1 + k) (s.opn.getD k default))
  b1 : Lk.ackd s + L ≤ 4294967295
theorem tkL_of {V : World} {T S : Nat → Prop} {o N : Nat} {s : Lk.S} (h : LnkAt V T S o N s) (hO : Lk.Ok s) {l : List Pkt} (hl : l = (List.range s.opn.length).map fun i => Lk.mk s (Lk.ackd s + 1 + i) (s.opn.getD i default)) : ∃ A cap, V.cell? ⟨o, 7, none⟩ = some (.slice A s.opn.length cap) ∧ TkL V o A s.opn.length s l := by
  obtain ⟨A, cap, hc, hel⟩ := h.elems
  have hos := hO.os
  have hst := hO.st
  refine ⟨A, cap, hc V (Below.refl _ V), ⟨fun k hk => ?_, fun k hk => by rw [hl]; simp [hk], by unfold Lk.ackd; omega⟩⟩
  obtain ⟨g, Ak, ck, e, hh⟩ := hel k hk
  refine ⟨g, Ak, ck, e, fun W hW => ⟨(hh W hW).1, fun W' hW' => ?_, fun W' hW' => ?_⟩⟩
  · have hm : s.opn.getD k default ∈ s.opn := by rw [List.getD_eq_getElem?_getD, List.getElem?_eq_getElem hk]; exact List.getElem_mem hk
    have hVW := hW.trans (hW'.mono hW.size)
    refine (packet_any (h.below hVW) _ ((hh W hW).2.below hW') (by have := (hO.om _ hm).2.2.2.2; omega) (Lk.ackd s + 1 + k)).mono ?_
    rintro e w' ⟨A', cap', rfl, a1, a2⟩
    exact ⟨A', cap', rfl, hW'.trans (a2.mono hW'.size), rowB a1 hW'.size⟩
  · have hVW := hW.trans (hW'.mono hW.size)
    refine (ackd_any (h.below hVW) hO).mono ?_
    rintro e w' ⟨rfl, n, rfl⟩
    exact ⟨rfl, hW'.os, hW'.tape, hW'.output, hW'.size, hW'.block⟩

set_option maxHeartbeats 8000000 in
theorem tick_many {w : World} {T S : Nat → Prop} {o N : Nat} {s : Lk.S} (h : LnkAt w T S o N s) (hO : Lk.Ok s) {n : Nat} (hn : n ≤ topT) (hr : Lk.rings s n = true) (hk : s.kn ≠ 0) :
    Calls Tryd.prog 20 #[.pointer (some ⟨o, 0, none⟩), .int .u64 (n : Nat)] w fun e w' => ∃ v, e = .returned v ∧ StepB w T S o N (Lk.tickS s n) w' v (Lk.tickL s n) := by
  obtain ⟨P, hP⟩ : ∃ P : Ending → World → Prop, P = fun e w' => ∃ v, e = .returned v ∧ StepB w T S o N (Lk.tickS s n) w' v (Lk.tickL s n) := ⟨_, rfl⟩
  have HP : Hid (∀ v w', StepB w T S o N (Lk.tickS s n) w' v (Lk.tickL s n) → P (.returned v) w') := by rw [hP]; exact fun v w' h => ⟨v, rfl, h⟩
  rw [← hP]
  clear hP
  have hrl : okR s.b s.c = true := hO.rl
  have HM : Hid (∀ W, Below w.heap.size w W → Calls Tryd.prog 35 #[.pointer (some ⟨o, 0, none⟩)] W fun e w' => e = .returned (.bool true) ∧ w' = W) := fun W hW => made_any (h.below hW) hO.ep1
  have HL1 : Hid (∀ W : World, Below w.heap.size w W → (W.cell? ⟨o, 4, none⟩ = some (.int .u64 (s.b : Nat)) ∧ W.cell? ⟨o, 5, none⟩ = some (.int .u64 (s.c : Nat)) ∧ W.cell? ⟨o, 11, none⟩ = some (.bool s.on) ∧ W.cell? ⟨o, 12, none⟩ = some (.int .u64 (s.at_ : Nat)) ∧ W.cell? ⟨o, 13, none⟩ = some (.int .i64 s.tr))) := by
    intro W hW
    obtain ⟨_, _, _, _, c4, c5, _, c11, c12, c13⟩ := (h.below hW).cells
    exact ⟨c4, c5, c11, c12, c13⟩
  have HRI : Hid (∀ W, Below w.heap.size w W → Calls Tryd.prog 53 #[ruV s.b s.c, alV s.on s.at_ s.tr, .int .u64 (n : Nat)] W fun e w' => e = .returned (.bool (s.on && decide (s.at_ ≤ n))) ∧ Below w.heap.size w w') := by
    intro W hW
    refine (rings_any W hrl).mono ?_
    rintro e w' ⟨rfl, hb⟩
    exact ⟨rfl, hW.trans (hb.mono hW.size)⟩
  have HRV : Hid ((s.on && decide (s.at_ ≤ n)) = Lk.rings s n) := rfl
  rw [hr] at HRV
  have hon : s.on = true := by unfold Lk.rings at hr; simp at hr; exact hr.1
  obtain ⟨qt, hqt⟩ : ∃ qt, qt = agT s.tr := ⟨_, rfl⟩
  obtain ⟨qa, hqa⟩ : ∃ qa, qa = beh n (dly s.b s.c qt) := ⟨_, rfl⟩
  have hts : Lk.tickS s n = { s with on := true, at_ := qa, tr := qt } := by unfold Lk.tickS; rw [if_pos hr, hqa, hqt, ← hon]; rfl
  have ht1 := hO.t1
  have HAG : Hid (∀ W, Below w.heap.size w W → Calls Tryd.prog 54 #[ruV s.b s.c, alV true s.at_ s.tr, .int .u64 (n : Nat)] W fun e w' => e = .returned (alV true qa qt) ∧ Below w.heap.size w w') := by
    intro W hW
    refine (again_any W hrl hn (by omega)).mono ?_
    rintro e w' ⟨rfl, hb⟩
    rw [hqa, hqt]
    exact ⟨rfl, hW.trans (hb.mono hW.size)⟩
  have HL3 : Hid (∀ W : World, (W.cell? ⟨o, 4, none⟩ = some (.int .u64 (s.b : Nat)) ∧ W.cell? ⟨o, 5, none⟩ = some (.int .u64 (s.c : Nat))) → W.cell? ⟨o, 4, none⟩ = some (.int .u64 (s.b : Nat)) ∧ W.cell? ⟨o, 5, none⟩ = some (.int .u64 (s.c : Nat))) := fun W h => h
  have HA3 : Hid (∀ W : World, Below w.heap.size w W → ((W.cell? ⟨o, 4, none⟩ = some (.int .u64 (s.b : Nat)) ∧ W.cell? ⟨o, 5, none⟩ = some (.int .u64 (s.c : Nat))) ∧ ((((W.setCell ⟨o, 11, none⟩ (.bool true)).setCell ⟨o, 12, none⟩ (.int .u64 (qa : Nat))).setCell ⟨o, 13, none⟩ (.int .i64 qt)).cell? ⟨o, 4, none⟩ = some (.int .u64 (s.b : Nat)) ∧ (((W.setCell ⟨o, 11, none⟩ (.bool true)).setCell ⟨o, 12, none⟩ (.int .u64 (qa : Nat))).setCell ⟨o, 13, none⟩ (.int .i64 qt)).cell? ⟨o, 5, none⟩ = some (.int .u64 (s.c : Nat)))) ∧ (W.cell? ⟨o, 11, none⟩ = some (.bool true) ∧ W.cell? ⟨o, 12, none⟩ = some (.int .u64 (s.at_ : Nat)) ∧ W.cell? ⟨o, 13, none⟩ = some (.int .i64 s.tr) ∧ W.frozen? ⟨o, 11, none⟩ = false ∧ W.frozen? ⟨o, 12, none⟩ = false ∧ W.frozen? ⟨o, 13, none⟩ = false) ∧ StepL w T S o N (Lk.tickS s n) (((W.setCell ⟨o, 11, none⟩ (.bool true)).setCell ⟨o, 12, none⟩ (.int .u64 (qa : Nat))).setCell ⟨o, 13, none⟩ (.int .i64 qt))) := by
    intro W hW
    have hL := h.below hW
    obtain ⟨_, _, _, _, c4, c5, _, c11, c12, c13⟩ := hL.cells
    rw [hon] at c11
    have hs := StepL.al hL true qa qt
    obtain ⟨_, S', hS', _⟩ := id hs
    obtain ⟨_, _, _, _, d4, d5, _⟩ := hS'.cells
    rw [hts]
    exact ⟨⟨⟨c4, c5⟩, d4, d5⟩, ⟨c11, c12, c13, hL.free 11, hL.free 12, hL.free 13⟩, StepL.pre hW hs⟩
  obtain ⟨i0, hi, hz0, hz1, hz2⟩ := info_parts Tryd.infoPkt
  obtain ⟨s3, hs3⟩ : ∃ s3, s3 = Lk.tickS s n := ⟨_, rfl⟩
  obtain ⟨tl, htl⟩ : ∃ tl, tl = Lk.tickL s n := ⟨_, rfl⟩
  have hO3 : Lk.Ok s3 := by rw [hs3]; exact hO.tick n
  have hop : s3.opn = s.opn := by rw [hs3, hts]
  have hk3 : s3.kn ≠ 0 := by rw [hs3, hts]; exact hk
  have hkn : ((s3.kn : Int) == 0) = false := by
    have : ¬ (s3.kn : Int) = 0 := by omega
    simpa using this
  have hl3 : tl = (List.range s3.opn.length).map fun i => Lk.mk s3 (Lk.ackd s3 + 1 + i) (s3.opn.getD i default) := by
    rw [htl, hs3, hts]; unfold Lk.tickL; rw [if_pos hr, if_neg hk]; rfl
  have hll : tl.length = s3.opn.length := by rw [hl3]; simp
  have hol3 := hO3.ol
  rw [← hs3, ← htl] at HP
  rw [← hs3] at HA3
  have HST : Hid (∀ W, StepL w T S o N s3 W → W.cell? ⟨o, 3, none⟩ = some (.int .u32 (s3.kn : Nat)) ∧ ∃ A cap, W.cell? ⟨o, 7, none⟩ = some (.slice A s3.opn.length cap) ∧ TkL W o A s3.opn.length s3 tl) := by
    rintro W ⟨_, S', hL, _⟩
    obtain ⟨_, _, _, c3, _⟩ := hL.cells
    exact ⟨c3, tkL_of hL hO3 hl3⟩
  have HFI : Hid (∀ V W v, StepL w T S o N s3 V → TkW V tl s3.opn.length v W → P (.returned v) W) := by
    rintro V W v hV ⟨a1, E, a2, a3, a4⟩
    refine HP.out v W (hV.bare a1 (fun T' hT' => ⟨E, by rw [a2, ← hll, List.take_length], a3, fun e he => ?_⟩))
    obtain ⟨A', c', e1, hh⟩ := row_claims (a4 e he)
    unfold PEn.v at e1
    injection e1 with e1 _ e3
    rw [e1, e3]
    exact hh T' hT'
  clear h hO hn hr hrl HP hk hts hqa hqt ht1 hO3 hop hl3 hk3 hs3 htl
  rw [hon] at HRV HL1 HRI
  clear hon
  go_enter Tryd.func20, Tryd.ntmps20
  go_wp2_with fail
  have hb0 : Below w.heap.size w w.drew := (Below.refl _ w).drew
  refine wp_region_held_drew (S := fun W => Below w.heap.size w W) (by kernel_rfl) hb0 (fun hHeld => ?_)
  simp only [List.size_toArray, List.length_cons, List.length_nil, Nat.reduceAdd, Array.replicate_succ, Array.replicate_zero, List.push_toArray, List.nil_append, List.cons_append, List.append_toArray]
  refine take_op (i := 0) (v := ?_) rfl (by kernel_rfl) (by kernel_rfl) (by kernel_rfl) (fun _ _ _ h => h) (Or.inl ⟨by rfl, ?_⟩) (by assumption) ?_
  rotate_left
  · (intro w' hSw; (try dsimp only at hSw); go_simp; (try with_reducible rfl))
  simp only [Act.put, List.setIfInBounds_toArray, List.set_cons_zero, List.set_cons_succ]
  refine wpAnyH_ready (rs := [1]) (by kernel_rfl) (by simp) ?_
  refine cons_op rfl (fun K hK => ?_) AllReadyH.nil
  go_simp
  refine (HM.out _ hb0).mono ?_
  rintro e wm ⟨rfl, hwm⟩
  rw [hwm]
  (try go_wp2_with fail)
  refine hK.out _ _ hb0 (fun hHeld => ?_)
  clear hK K
  (try simp only [Act.put, List.setIfInBounds_toArray, List.set_cons_zero, List.set_cons_succ])
  refine take_op (i := 2) (v := ?_) rfl (by kernel_rfl) (by kernel_rfl) (by kernel_rfl) (fun _ _ _ h => h) (Or.inl ⟨by rfl, ?_⟩) (by assumption) ?_
  rotate_left
  · (intro w' hSw; (try dsimp only at hSw); go_simp; (try with_reducible rfl))
  simp only [Act.put, List.setIfInBounds_toArray, List.set_cons_zero, List.set_cons_succ]
  refine take_op (i := 3) (v := ?_) rfl (by kernel_rfl) (by kernel_rfl) (by kernel_rfl) (fun _ _ _ h => h) (Or.inl ⟨by rfl, ?_⟩) (by assumption) ?_
  rotate_left
  · (intro w' hSw; (try dsimp only at hSw); go_simp; (try with_reducible rfl))
  simp only [Act.put, List.setIfInBounds_toArray, List.set_cons_zero, List.set_cons_succ]
  refine take_op (i := 4) (v := ?_) rfl (by kernel_rfl) (by kernel_rfl) (by kernel_rfl) (fun _ _ _ h => h) (Or.inl ⟨by rfl, ?_⟩) (by assumption) ?_
  rotate_left
  · (intro w' hSw; (try dsimp only at hSw); go_simp; (try with_reducible rfl))
  simp only [Act.put, List.setIfInBounds_toArray, List.set_cons_zero, List.set_cons_succ]
  refine take_op (i := 5) (v := ?_) rfl (by kernel_rfl) (by kernel_rfl) (by kernel_rfl) (fun _ _ _ h => h) (Or.inl ⟨by rfl, ?_⟩) (by assumption) ?_
  rotate_left
  · (intro w' hSw; (try dsimp only at hSw); go_simp; (try with_reducible rfl))
  simp only [Act.put, List.setIfInBounds_toArray, List.set_cons_zero, List.set_cons_succ]
  refine take_op (i := 6) (v := ?_) rfl (by kernel_rfl) (by kernel_rfl) (by kernel_rfl) (fun _ _ _ h => h) (Or.inl ⟨by rfl, ?_⟩) (by assumption) ?_
  rotate_left
  · (intro w' hSw; (try dsimp only at hSw); go_simp; (try with_reducible rfl))
  simp only [Act.put, List.setIfInBounds_toArray, List.set_cons_zero, List.set_cons_succ]
  refine take_op (i := 7) (v := ?_) rfl (by kernel_rfl) (by kernel_rfl) (by kernel_rfl) (fun _ _ _ h => h) (Or.inl ⟨by rfl, ?_⟩) (by assumption) ?_
  rotate_left
  · (intro w' hSw; obtain ⟨l4, l5, l11, l12, l13⟩ := HL1.out _ hSw; go_simp; (try with_reducible rfl))
  simp only [Act.put, List.setIfInBounds_toArray, List.set_cons_zero, List.set_cons_succ]
  refine take_op (i := 8) (v := ?_) rfl (by kernel_rfl) (by kernel_rfl) (by kernel_rfl) (fun _ _ _ h => h) (Or.inl ⟨by rfl, ?_⟩) (by assumption) ?_
  rotate_left
  · (intro w' hSw; (try dsimp only at hSw); go_simp; (try with_reducible rfl))
  simp only [Act.put, List.setIfInBounds_toArray, List.set_cons_zero, List.set_cons_succ]
  refine take_op (i := 9) (v := ?_) rfl (by kernel_rfl) (by kernel_rfl) (by kernel_rfl) (fun _ _ _ h => h) (Or.inl ⟨by rfl, ?_⟩) (by assumption) ?_
  rotate_left
  · (intro w' hSw; (try dsimp only at hSw); go_simp; (try with_reducible rfl))
  simp only [Act.put, List.setIfInBounds_toArray, List.set_cons_zero, List.set_cons_succ]
  refine take_op (i := 10) (v := ?_) rfl (by kernel_rfl) (by kernel_rfl) (by kernel_rfl) (fun _ _ _ h => h) (Or.inl ⟨by rfl, ?_⟩) (by assumption) ?_
  rotate_left
  · (intro w' hSw; (try dsimp only at hSw); go_simp; (try with_reducible rfl))
  simp only [Act.put, List.setIfInBounds_toArray, List.set_cons_zero, List.set_cons_succ]
  refine take_op (i := 11) (v := ?_) rfl (by kernel_rfl) (by kernel_rfl) (by kernel_rfl) (fun _ _ _ h => h) (Or.inl ⟨by rfl, ?_⟩) (by assumption) ?_
  rotate_left
  · (intro w' hSw; (try dsimp only at hSw); go_simp; (try with_reducible rfl))
  simp only [Act.put, List.setIfInBounds_toArray, List.set_cons_zero, List.set_cons_succ]
  refine take_op (i := 12) (v := ?_) rfl (by kernel_rfl) (by kernel_rfl) (by kernel_rfl) (fun _ _ _ h => h) (Or.inl ⟨by rfl, ?_⟩) (by assumption) ?_
  rotate_left
  · (intro w' hSw; obtain ⟨l4, l5, l11, l12, l13⟩ := HL1.out _ hSw; go_simp; (try with_reducible rfl))
  simp only [Act.put, List.setIfInBounds_toArray, List.set_cons_zero, List.set_cons_succ]
  refine take_op (i := 13) (v := ?_) rfl (by kernel_rfl) (by kernel_rfl) (by kernel_rfl) (fun _ _ _ h => h) (Or.inl ⟨by rfl, ?_⟩) (by assumption) ?_
  rotate_left
  · (intro w' hSw; (try dsimp only at hSw); go_simp; (try with_reducible rfl))
  simp only [Act.put, List.setIfInBounds_toArray, List.set_cons_zero, List.set_cons_succ]
  refine wpAnyH_ready (rs := [14]) (by kernel_rfl) (by simp) ?_
  refine cons_op rfl (fun K hK => ?_) AllReadyH.nil
  go_simp
  refine (HRI.out _ hb0).mono ?_
  rintro e w1 ⟨rfl, hb1⟩
  (try rw [HRV.out])
  (try go_wp2_with fail)
  refine hK.out _ _ hb1 (fun hHeld => ?_)
  clear hK K
  (try simp only [Act.put, List.setIfInBounds_toArray, List.set_cons_zero, List.set_cons_succ])
  refine take_op (i := 15) (v := ?_) rfl (by kernel_rfl) (by kernel_rfl) (by kernel_rfl) (fun _ _ _ h => h) (Or.inl ⟨by rfl, ?_⟩) (by assumption) ?_
  rotate_left
  · (intro w' hSw; (try dsimp only at hSw); go_simp; (try with_reducible rfl))
  simp only [Act.put, List.setIfInBounds_toArray, List.set_cons_zero, List.set_cons_succ]
  refine take_op (i := 16) (v := ?_) rfl (by kernel_rfl) (by kernel_rfl) (by kernel_rfl) (fun _ _ _ h => h) (Or.inl ⟨by rfl, ?_⟩) (by assumption) ?_
  rotate_left
  · (intro w' hSw; (try dsimp only at hSw); go_simp; (try with_reducible rfl))
  simp only [Act.put, List.setIfInBounds_toArray, List.set_cons_zero, List.set_cons_succ]
  refine wpAnyH_done (by kernel_rfl) ?_ _
  go_wp2_with fail
  have hb9 : Below w.heap.size w w1.drew := hb1.drew
  refine wp_region_held_drew (S := fun W => W.cell? ⟨o, 4, none⟩ = some (.int .u64 (s.b : Nat)) ∧ W.cell? ⟨o, 5, none⟩ = some (.int .u64 (s.c : Nat))) (by kernel_rfl) (HA3.out _ hb9).1.1 (fun hHeld => ?_)
  simp only [List.size_toArray, List.length_cons, List.length_nil, Nat.reduceAdd, Array.replicate_succ, Array.replicate_zero, List.push_toArray, List.nil_append, List.cons_append, List.append_toArray]
  refine take_op (i := 0) (v := ?_) rfl (by kernel_rfl) (by kernel_rfl) (by kernel_rfl) (fun _ _ _ h => h) (Or.inl ⟨by rfl, ?_⟩) (by assumption) ?_
  rotate_left
  · (intro w' hSw; (try dsimp only at hSw); go_simp; (try with_reducible rfl))
  simp only [Act.put, List.setIfInBounds_toArray, List.set_cons_zero, List.set_cons_succ]
  refine take_op (i := 1) (v := ?_) rfl (by kernel_rfl) (by kernel_rfl) (by kernel_rfl) (fun _ _ _ h => h) (Or.inl ⟨by rfl, ?_⟩) (by assumption) ?_
  rotate_left
  · (intro w' hSw; (try dsimp only at hSw); go_simp; (try with_reducible rfl))
  simp only [Act.put, List.setIfInBounds_toArray, List.set_cons_zero, List.set_cons_succ]
  refine take_op (i := 2) (v := ?_) rfl (by kernel_rfl) (by kernel_rfl) (by kernel_rfl) (fun _ _ _ h => h) (Or.inl ⟨by rfl, ?_⟩) (by assumption) ?_
  rotate_left
  · (intro w' hSw; (try dsimp only at hSw); go_simp; (try with_reducible rfl))
  simp only [Act.put, List.setIfInBounds_toArray, List.set_cons_zero, List.set_cons_succ]
  refine take_op (i := 3) (v := ?_) rfl (by kernel_rfl) (by kernel_rfl) (by kernel_rfl) (fun _ _ _ h => h) (Or.inl ⟨by rfl, ?_⟩) (by assumption) ?_
  rotate_left
  · (intro w' hSw; (try dsimp only at hSw); go_simp; (try with_reducible rfl))
  simp only [Act.put, List.setIfInBounds_toArray, List.set_cons_zero, List.set_cons_succ]
  refine take_op (i := 4) (v := ?_) rfl (by kernel_rfl) (by kernel_rfl) (by kernel_rfl) (fun _ _ _ h => h) (Or.inl ⟨by rfl, ?_⟩) (by assumption) ?_
  rotate_left
  · (intro w' hSw; obtain ⟨l4, l5⟩ := HL3.out _ hSw; go_simp; (try with_reducible rfl))
  simp only [Act.put, List.setIfInBounds_toArray, List.set_cons_zero, List.set_cons_succ]
  refine take_op (i := 5) (v := ?_) rfl (by kernel_rfl) (by kernel_rfl) (by kernel_rfl) (fun _ _ _ h => h) (Or.inl ⟨by rfl, ?_⟩) (by assumption) ?_
  rotate_left
  · (intro w' hSw; (try dsimp only at hSw); go_simp; (try with_reducible rfl))
  simp only [Act.put, List.setIfInBounds_toArray, List.set_cons_zero, List.set_cons_succ]
  refine take_op (i := 6) (v := ?_) rfl (by kernel_rfl) (by kernel_rfl) (by kernel_rfl) (fun _ _ _ h => h) (Or.inl ⟨by rfl, ?_⟩) (by assumption) ?_
  rotate_left
  · (intro w' hSw; (try dsimp only at hSw); go_simp; (try with_reducible rfl))
  simp only [Act.put, List.setIfInBounds_toArray, List.set_cons_zero, List.set_cons_succ]
  refine take_op (i := 7) (v := ?_) rfl (by kernel_rfl) (by kernel_rfl) (by kernel_rfl) (fun _ _ _ h => h) (Or.inl ⟨by rfl, ?_⟩) (by assumption) ?_
  rotate_left
  · (intro w' hSw; (try dsimp only at hSw); go_simp; (try with_reducible rfl))
  simp only [Act.put, List.setIfInBounds_toArray, List.set_cons_zero, List.set_cons_succ]
  refine take_op (i := 8) (v := ?_) rfl (by kernel_rfl) (by kernel_rfl) (by kernel_rfl) (fun _ _ _ h => h) (Or.inl ⟨by rfl, ?_⟩) (by assumption) ?_
  rotate_left
  · (intro w' hSw; (try dsimp only at hSw); go_simp; (try with_reducible rfl))
  simp only [Act.put, List.setIfInBounds_toArray, List.set_cons_zero, List.set_cons_succ]
  refine take_op (i := 10) (v := ?_) rfl (by kernel_rfl) (by kernel_rfl) (by kernel_rfl) (fun _ _ _ h => h) (Or.inl ⟨by rfl, ?_⟩) (by assumption) ?_
  rotate_left
  · (intro w' hSw; (try dsimp only at hSw); go_simp; (try with_reducible rfl))
  simp only [Act.put, List.setIfInBounds_toArray, List.set_cons_zero, List.set_cons_succ]
  refine wpAnyH_ready (rs := [9]) (by kernel_rfl) (by simp) ?_
  refine cons_op rfl (fun K hK => ?_) AllReadyH.nil
  obtain ⟨⟨hs9, _⟩, ⟨d11, d12, d13, _⟩, _⟩ := HA3.out _ hb9
  go_simp
  refine hK.out _ _ hs9 (fun hHeld => ?_)
  clear hK K
  (try simp only [Act.put, List.setIfInBounds_toArray, List.set_cons_zero, List.set_cons_succ])
  refine wpAnyH_ready (rs := [11]) (by kernel_rfl) (by simp) ?_
  refine cons_op rfl (fun K hK => ?_) AllReadyH.nil
  go_simp
  refine (HAG.out _ hb9).mono ?_
  rintro e w11 ⟨rfl, hb11⟩
  obtain ⟨⟨hs11, hs11b⟩, ⟨d11, d12, d13, f11, f12, f13⟩, hst⟩ := HA3.out _ hb11
  (try go_wp2_with fail)
  refine hK.out _ _ hs11 (fun hHeld => ?_)
  clear hK K
  (try simp only [Act.put, List.setIfInBounds_toArray, List.set_cons_zero, List.set_cons_succ])
  refine take_op (i := 12) (v := ?_) rfl (by kernel_rfl) (by kernel_rfl) (by kernel_rfl) (fun _ _ _ h => h) (Or.inl ⟨by rfl, ?_⟩) (by assumption) ?_
  rotate_left
  · (intro w' hSw; (try dsimp only at hSw); go_simp; (try with_reducible rfl))
  simp only [Act.put, List.setIfInBounds_toArray, List.set_cons_zero, List.set_cons_succ]
  refine take_op (i := 13) (v := ?_) rfl (by kernel_rfl) (by kernel_rfl) (by kernel_rfl) (fun _ _ _ h => h) (Or.inl ⟨by rfl, ?_⟩) (by assumption) ?_
  rotate_left
  · (intro w' hSw; (try dsimp only at hSw); go_simp; (try with_reducible rfl))
  simp only [Act.put, List.setIfInBounds_toArray, List.set_cons_zero, List.set_cons_succ]
  refine take_op (i := 14) (v := ?_) rfl (by kernel_rfl) (by kernel_rfl) (by kernel_rfl) (fun _ _ _ h => h) (Or.inl ⟨by rfl, ?_⟩) (by assumption) ?_
  rotate_left
  · (intro w' hSw; (try dsimp only at hSw); go_simp; (try with_reducible rfl))
  simp only [Act.put, List.setIfInBounds_toArray, List.set_cons_zero, List.set_cons_succ]
  refine wpAnyH_ready (rs := [15]) (by kernel_rfl) (by simp) ?_
  refine cons_op rfl (fun K hK => ?_) AllReadyH.nil
  go_simp
  refine hK.out _ _ hs11b (fun hHeld => ?_)
  clear hK K
  (try simp only [Act.put, List.setIfInBounds_toArray, List.set_cons_zero, List.set_cons_succ])
  refine wpAnyH_done (by kernel_rfl) ?_ _
  obtain ⟨V3, hV3⟩ : ∃ X, (((w11.setCell ⟨o, 11, none⟩ (.bool true)).setCell ⟨o, 12, none⟩ (.int .u64 (qa : Nat))).setCell ⟨o, 13, none⟩ (.int .i64 qt)) = X := ⟨_, rfl⟩
  have HS3 := Lib.hid hst
  rw [hV3] at HS3 ⊢
  clear hV3 hst d11 d12 d13 f11 f12 f13 hs11 hs11b hb11 hb9 hb1 hb0 HA3 HL3 HAG HM HRI HRV HL1 hHeld
  obtain ⟨c3, Al, cl, c7, hTL⟩ := HST.out _ HS3.out
  have HTL := Lib.hid hTL
  have HFI2 := Lib.hid (fun W v => HFI.out V3 W v HS3.out)
  clear hTL HST HFI HS3
  obtain ⟨L, hL⟩ : ∃ L, L = s3.opn.length := ⟨_, rfl⟩
  rw [← hL] at HTL HFI2 c7 hol3 hll
  clear hL
  obtain ⟨KN, hKN⟩ : ∃ KN, s3.kn = KN := ⟨_, rfl⟩
  rw [hKN] at c3 hkn
  clear hKN
  go_wp2
  have HI0 : Hid (TkW V3 tl 0 (.slice none 0 0) V3) := ⟨Below.refl _ _, [], by simp, World.ownsRow_nil _ _ _ _, fun e he => by cases he⟩
  go_loopw [5, 53] (fun v i wr => ∃ k : Nat, k ≤ L ∧ i = .int .i64 (k : Int) ∧ TkW V3 tl k v wr) (fun _ i _ => L - (intOf i).toNat)
  case atStart => exact ⟨0, Nat.zero_le _, rfl, HI0.out⟩
  case round =>
    obtain ⟨k, hk, rfl, hI⟩ := hrel
    rename World => W
    clear HI0
    by_cases hlt : k < L
    · obtain ⟨hbW, E, hE2, hE4, hE5⟩ := id hI
      have hE1 : E.length = k := by have := congrArg List.length hE2; simp at this; omega
      obtain ⟨g, Ak, ck, rfl, hh⟩ := HTL.out.el k hlt
      obtain ⟨hmc, _, _⟩ := hh W hbW
      have hli := HTL.out.li k hlt
      have hb1 := HTL.out.b1
      obtain ⟨sq, hsq⟩ : ∃ sq, Lk.ackd s3 + 1 + k = sq := ⟨_, rfl⟩
      have w1 : IntKind.u32.wrap ((Lk.ackd s3 : Int) + 1) = ((Lk.ackd s3 + 1 : Nat) : Int) := by rw [u32_in (by omega) (by omega)]; push_cast; rfl
      have w2 : IntKind.u32.wrap (k : Int) = (k : Int) := u32_in (by omega) (by omega)
      have w3 : IntKind.u32.wrap (((Lk.ackd s3 + 1 : Nat) : Int) + (k : Int)) = (sq : Int) := by rw [u32_in (by omega) (by omega), ← hsq]; push_cast; rfl
      have w4 : IntKind.u32.wrap ((Lk.ackd s3 : Int) + 1 + (k : Int)) = (sq : Int) := by rw [u32_in (by omega) (by omega), ← hsq]; push_cast; rfl
      rw [hsq] at hli
      obtain ⟨m, hm⟩ : ∃ m, s3.opn.getD k default = m := ⟨_, rfl⟩
      rw [hm] at hmc hli
      have HRD : Hid (∀ W1 x, W1 = W.alloc x → Below W.heap.size W W1 ∧ (∀ W', Below W1.heap.size W1 W' → Calls Tryd.prog 43 #[.pointer (some ⟨o, 0, none⟩), .int .u32 (sq : Nat), msgA m Ak m.claims.length ck] W' fun e w' => ∃ A' cap', e = .returned (pktA (Lk.mk s3 sq m) A' m.claims.length cap') ∧ Below W1.heap.size W1 w' ∧ w'.ownsRow W1.heap.size 138 2 (.slice A' m.claims.length cap') m.claims.length (csC m.claims)) ∧
          (∀ W', Below W1.heap.size W1 W' → Calls Tryd.prog 55 #[.pointer (some ⟨o, 6, none⟩)] W' fun e w' => e = .returned (.int .u32 (Lk.ackd s3 : Nat)) ∧ Below W1.heap.size W1 w')) := by
        rintro W1 x rfl
        obtain ⟨_, h2, h3⟩ := hh (W.alloc x) (hbW.alloc hbW.size x)
        rw [hm, hsq] at h2
        exact ⟨(Below.refl _ W).alloc (Nat.le_refl _) x, h2, h3⟩
      have HPX : Hid (∀ W1, Below W.heap.size W W1 → ∀ w2 x w3 A' cap' v', Below W1.heap.size W1 w2 → w2.ownsRow W1.heap.size 138 2 (.slice A' m.claims.length cap') m.claims.length (csC m.claims) → (w2.alloc x).grownBy w3 u5.ownBlock → w3.ownsRow V3.heap.size 39 15 v' (E.length + 1) (csP E ++ pkC (Lk.mk s3 sq m) (.slice A' m.claims.length cap')) → ∃ k' : Nat, k' ≤ L ∧ (Value.int .i64 ((k : Int) + 1)) = .int .i64 (k' : Int) ∧ TkW V3 tl k' v' w3) := fun W1 a0 w2 x w3 A' cap' v' a1 a2 a3 a4 => ⟨k + 1, hlt, by push_cast; rfl, hI.push hli (a0.trans (a1.mono a0.size)) (rowB a2 a0.size) a3 E hE2 hE4 hE5 a4⟩
      have hEl : E.length ≤ 16 := by omega
      have hkw : IntKind.i64.wrap ((k : Int) + 1) = (k : Int) + 1 := IntWalk.i64_in _ (by omega)
      have HLT := Lib.hid hlt
      have HOWX : Hid (∀ W1, Below W.heap.size W W1 → ∀ w2, Below W1.heap.size W1 w2 → w2.ownsRow V3.heap.size 39 15 u5 E.length (csP E) ∧ V3.heap.size ≤ w2.heap.size) := fun W1 a0 w2 hb => ⟨owns_below hE4 (a0.trans (hb.mono a0.size)) (Nat.le_refl _), Nat.le_trans hbW.size (Nat.le_trans a0.size hb.size)⟩
      have HVL : Hid (∀ g, u5.ownBlock = some g → g < W.heap.size) := fun g e => (hE4.lt g e).2
      obtain ⟨x0, x1, x2, x3, x4, x5, x6, x7, x8⟩ := m
      obtain ⟨q0, q1, q2, q3, q4, q5, q6, q7, q8⟩ := hmc
      simp only [msgA, pktA, pkC, Lk.mk] at HRD HPX q0 q1 q2 q3 q4 q5 q6 q7 q8
      generalize csC x8 = ys at *
      generalize x8.length = Lc at *
      have HX : Hid (∀ A2 cap2, ∀ u ∈ ([.int .i64 s3.self, .int .i64 s3.peer, .int .u32 (s3.ep : Nat), .int .u32 (s3.kn : Nat), .int .u32 (sq : Nat), .int .u32 (s3.l : Nat), .int .i64 x0, .int .i64 x1, .int .u32 (x2 : Nat), .int .u64 (x3 : Nat), .int .i64 x4, .int .i64 x5, .int .i64 x6, .int .i64 x7, .slice A2 Lc cap2] : List Value), u.oneCell' = true) := by
        intro A2 cap2 u hu
        simp at hu
        rcases hu with rfl | rfl | rfl | rfl | rfl | rfl | rfl | rfl | rfl | rfl | rfl | rfl | rfl | rfl | rfl <;> rfl
      generalize E.length = NE at *
      generalize csP E = xs at *
      generalize Lk.ackd s3 = qa3 at *
      clear hh hli HTL hE1 hE2 hE4 hE5 hI hbW hb1 hsq hm
      have hlt2 : k < L := hlt
      go_wp2_with fail
      obtain ⟨W1, hW1⟩ : ∃ X, W.alloc (.cells #[.int .i64 x0, .int .i64 x1, .int .u32 (x2 : Nat), .int .u64 (x3 : Nat), .int .i64 x4, .int .i64 x5, .int .i64 x6, .int .i64 x7, .slice Ak Lc ck] 37) = X := ⟨_, rfl⟩
      obtain ⟨hbW1, hpk, hac⟩ := HRD.out W1 _ hW1.symm
      have hx1 : W1.heap[W.heap.size]? = some (.cells #[.int .i64 x0, .int .i64 x1, .int .u32 (x2 : Nat), .int .u64 (x3 : Nat), .int .i64 x4, .int .i64 x5, .int .i64 x6, .int .i64 x7, .slice Ak Lc ck] 37 (0, 0)) := by rw [← hW1]; exact World.alloc_heap_new W _
      have hz1 : W.heap.size < W1.heap.size := blk_lt hx1
      rw [hW1]
      have HAC := Lib.hid hac
      have HPK := Lib.hid hpk
      have HPX2 := Lib.hid (HPX.out W1 hbW1)
      have HOW := Lib.hid (HOWX.out W1 hbW1)
      have HBS : Hid (∀ W2, Below W1.heap.size W1 W2 → W2.heap[W.heap.size]? = some (.cells #[.int .i64 x0, .int .i64 x1, .int .u32 (x2 : Nat), .int .u64 (x3 : Nat), .int .i64 x4, .int .i64 x5, .int .i64 x6, .int .i64 x7, .slice Ak Lc ck] 37 (0, 0))) := fun W2 hb => (hb.block _ hz1).trans hx1
      have HBK : Hid (∀ W2 W3, Below W1.heap.size W1 W2 → W2.grownBy W3 u5.ownBlock → W3.heap[W.heap.size]? = some (.cells #[.int .i64 x0, .int .i64 x1, .int .u32 (x2 : Nat), .int .u64 (x3 : Nat), .int .i64 x4, .int .i64 x5, .int .i64 x6, .int .i64 x7, .slice Ak Lc ck] 37 (0, 0))) := fun W2 W3 hb hg => (hg.block _ (Nat.lt_of_lt_of_le hz1 hb.size) (fun e => by have := HVL.out _ e.symm; omega)).trans (HBS.out W2 hb)
      have HAL : Hid (∀ (W' : World) (X : Obj), Below W1.heap.size W1 W' → Below W1.heap.size W1 (W'.alloc X)) := fun W' X hW => hW.alloc hW.size X
      have HL10 : Hid (∀ W2 : World, W2.heap[W.heap.size]? = some (.cells #[.int .i64 x0, .int .i64 x1, .int .u32 (x2 : Nat), .int .u64 (x3 : Nat), .int .i64 x4, .int .i64 x5, .int .i64 x6, .int .i64 x7, .slice Ak Lc ck] 37 (0, 0)) → W2.cell? ⟨W.heap.size, 0, none⟩ = some (.int .i64 x0) ∧ W2.cell? ⟨W.heap.size, 1, none⟩ = some (.int .i64 x1) ∧ W2.cell? ⟨W.heap.size, 2, none⟩ = some (.int .u32 (x2 : Nat)) ∧ W2.cell? ⟨W.heap.size, 3, none⟩ = some (.int .u64 (x3 : Nat)) ∧ W2.cell? ⟨W.heap.size, 4, none⟩ = some (.int .i64 x4) ∧ W2.cell? ⟨W.heap.size, 5, none⟩ = some (.int .i64 x5) ∧ W2.cell? ⟨W.heap.size, 6, none⟩ = some (.int .i64 x6) ∧ W2.cell? ⟨W.heap.size, 7, none⟩ = some (.int .i64 x7) ∧ W2.cell? ⟨W.heap.size, 8, none⟩ = some (.slice Ak Lc ck)) := fun W2 h => (nine h).1
      have hb0 : Below W1.heap.size W1 W1.drew := (Below.refl _ W1).drew
      clear hW1 hac hpk HRD HPX HOWX hbW1 q0 q1 q2 q3 q4 q5 q6 q7 q8 HVL hz1
      refine wp_region_held_drew (S := fun W2 => W2.heap[W.heap.size]? = some (.cells #[.int .i64 x0, .int .i64 x1, .int .u32 (x2 : Nat), .int .u64 (x3 : Nat), .int .i64 x4, .int .i64 x5, .int .i64 x6, .int .i64 x7, .slice Ak Lc ck] 37 (0, 0))) (by kernel_rfl) hx1 (fun hHeld => ?_)
      simp only [List.size_toArray, List.length_cons, List.length_nil, Nat.reduceAdd, Array.replicate_succ, Array.replicate_zero, List.push_toArray, List.nil_append, List.cons_append, List.append_toArray]
      refine take_op (i := 0) (v := ?_) rfl (by kernel_rfl) (by kernel_rfl) (by kernel_rfl) (fun _ _ _ h => h) (Or.inl ⟨by rfl, ?_⟩) (by assumption) ?_
      rotate_left
      · (intro w' hSw; (try dsimp only at hSw); go_simp; (try with_reducible rfl))
      simp only [Act.put, List.setIfInBounds_toArray, List.set_cons_zero, List.set_cons_succ]
      refine take_op (i := 1) (v := ?_) rfl (by kernel_rfl) (by kernel_rfl) (by kernel_rfl) (fun _ _ _ h => h) (Or.inl ⟨by rfl, ?_⟩) (by assumption) ?_
      rotate_left
      · (intro w' hSw; (try dsimp only at hSw); go_simp; (try with_reducible rfl))
      simp only [Act.put, List.setIfInBounds_toArray, List.set_cons_zero, List.set_cons_succ]
      refine take_op (i := 2) (v := ?_) rfl (by kernel_rfl) (by kernel_rfl) (by kernel_rfl) (fun _ _ _ h => h) (Or.inl ⟨by rfl, ?_⟩) (by assumption) ?_
      rotate_left
      · (intro w' hSw; (try dsimp only at hSw); go_simp; (try with_reducible rfl))
      simp only [Act.put, List.setIfInBounds_toArray, List.set_cons_zero, List.set_cons_succ]
      refine take_op (i := 3) (v := ?_) rfl (by kernel_rfl) (by kernel_rfl) (by kernel_rfl) (fun _ _ _ h => h) (Or.inl ⟨by rfl, ?_⟩) (by assumption) ?_
      rotate_left
      · (intro w' hSw; (try dsimp only at hSw); go_simp; (try with_reducible rfl))
      simp only [Act.put, List.setIfInBounds_toArray, List.set_cons_zero, List.set_cons_succ]
      refine take_op (i := 4) (v := ?_) rfl (by kernel_rfl) (by kernel_rfl) (by kernel_rfl) (fun _ _ _ h => h) (Or.inl ⟨by rfl, ?_⟩) (by assumption) ?_
      rotate_left
      · (intro w' hSw; (try dsimp only at hSw); go_simp; (try with_reducible rfl))
      simp only [Act.put, List.setIfInBounds_toArray, List.set_cons_zero, List.set_cons_succ]
      refine take_op (i := 7) (v := ?_) rfl (by kernel_rfl) (by kernel_rfl) (by kernel_rfl) (fun _ _ _ h => h) (Or.inl ⟨by rfl, ?_⟩) (by assumption) ?_
      rotate_left
      · (intro w' hSw; (try dsimp only at hSw); go_simp; (try with_reducible rfl))
      simp only [Act.put, List.setIfInBounds_toArray, List.set_cons_zero, List.set_cons_succ]
      refine take_op (i := 8) (v := ?_) rfl (by kernel_rfl) (by kernel_rfl) (by kernel_rfl) (fun _ _ _ h => h) (Or.inl ⟨by rfl, ?_⟩) (by assumption) ?_
      rotate_left
      · (intro w' hSw; (try dsimp only at hSw); go_simp; (try with_reducible rfl))
      simp only [Act.put, List.setIfInBounds_toArray, List.set_cons_zero, List.set_cons_succ]
      refine take_op (i := 10) (v := ?_) rfl (by kernel_rfl) (by kernel_rfl) (by kernel_rfl) (fun _ _ _ h => h) (Or.inl ⟨by rfl, ?_⟩) (by assumption) ?_
      rotate_left
      · (intro w' hSw; obtain ⟨q0, q1, q2, q3, q4, q5, q6, q7, q8⟩ := HL10.out _ hSw; go_simp; (try with_reducible rfl))
      simp only [Act.put, List.setIfInBounds_toArray, List.set_cons_zero, List.set_cons_succ]
      refine wpAnyH_ready (rs := [5]) (by kernel_rfl) (by simp) ?_
      refine cons_op rfl (fun K hK => ?_) AllReadyH.nil
      go_simp
      refine (HAC.out _ hb0).mono ?_
      rintro e w5 ⟨rfl, hb5⟩
      have hs5 := HBS.out _ hb5
      (try go_wp2_with fail)
      refine hK.out _ _ hs5 (fun hHeld => ?_)
      clear hK K
      (try simp only [Act.put, List.setIfInBounds_toArray, List.set_cons_zero, List.set_cons_succ])
      refine take_op (i := 6) (v := ?_) rfl (by kernel_rfl) (by kernel_rfl) (by kernel_rfl) (fun _ _ _ h => h) (Or.inl ⟨by rfl, ?_⟩) (by assumption) ?_
      rotate_left
      · (intro w' hSw; (try dsimp only at hSw); go_simp; (try with_reducible rfl))
      simp only [Act.put, List.setIfInBounds_toArray, List.set_cons_zero, List.set_cons_succ]
      refine take_op (i := 9) (v := ?_) rfl (by kernel_rfl) (by kernel_rfl) (by kernel_rfl) (fun _ _ _ h => h) (Or.inl ⟨by rfl, ?_⟩) (by assumption) ?_
      rotate_left
      · (intro w' hSw; (try dsimp only at hSw); go_simp; (try with_reducible rfl))
      simp only [Act.put, List.setIfInBounds_toArray, List.set_cons_zero, List.set_cons_succ]
      refine wpAnyH_ready (rs := [11]) (by kernel_rfl) (by simp) ?_
      refine cons_op rfl (fun K hK => ?_) AllReadyH.nil
      go_simp
      refine (HPK.out _ hb5).mono ?_
      rintro e w11 ⟨A2, cap2, rfl, hb11, hr11⟩
      have hs11 := HBS.out _ hb11
      (try go_wp2_with fail)
      refine hK.out _ _ hs11 (fun hHeld => ?_)
      clear hK K
      (try simp only [Act.put, List.setIfInBounds_toArray, List.set_cons_zero, List.set_cons_succ])
      refine wpAnyH_ready (rs := [12]) (by kernel_rfl) (by simp) ?_
      refine cons_op rfl (fun K hK => ?_) AllReadyH.nil
      have hb12 := HAL.out w11 (.cells #[.int .i64 s3.self, .int .i64 s3.peer, .int .u32 (s3.ep : Nat), .int .u32 (s3.kn : Nat), .int .u32 (sq : Nat), .int .u32 (s3.l : Nat), .int .i64 x0, .int .i64 x1, .int .u32 (x2 : Nat), .int .u64 (x3 : Nat), .int .i64 x4, .int .i64 x5, .int .i64 x6, .int .i64 x7, .slice A2 Lc cap2] 39) hb11
      have hs12 := HBS.out _ hb12
      go_simp
      refine hK.out _ _ hs12 (fun hHeld => ?_)
      clear hK K
      (try simp only [Act.put, List.setIfInBounds_toArray, List.set_cons_zero, List.set_cons_succ])
      refine wpAnyH_ready (rs := [13]) (by kernel_rfl) (by simp) ?_
      refine cons_op rfl (fun K hK => ?_) AllReadyH.nil
      refine step_append_lies _ rfl (.tmp 58) (.tmp 70) 43 rfl V3.heap.size 39 i0 (.agg #[.int .i64 0, .int .i64 0, .int .u32 0, .int .u32 0, .int .u32 0, .int .u32 0, .int .i64 0, .int .i64 0, .int .u32 0, .int .u64 0, .int .i64 0, .int .i64 0, .int .i64 0, .int .i64 0, .slice none 0 0]) 15 120 Tryd.underlying43 hi hz0 hz1 hz2 rfl (by decide) u5 NE xs (by simp [Act.eval]) (HOW.out _ hb12).1 ⟨w11.heap.size, 0, none⟩ 1 1 [.int .i64 s3.self, .int .i64 s3.peer, .int .u32 (s3.ep : Nat), .int .u32 (s3.kn : Nat), .int .u32 (sq : Nat), .int .u32 (s3.l : Nat), .int .i64 x0, .int .i64 x1, .int .u32 (x2 : Nat), .int .u64 (x3 : Nat), .int .i64 x4, .int .i64 x5, .int .i64 x6, .int .i64 x7, .slice A2 Lc cap2] (by simp [Act.eval]) rfl (new_cells15 _ _ _ _ _ _ _ _ _ _ _ _ _ _ _ _ rfl) (HX.out A2 cap2) (by decide) (by unfold maxLen; omega) (by omega) (HOW.out _ hb12).2 (w11.heap.size + 1) (by simp) ?_
      intro g2 capg w13 ho13 hg13 hat13 _
      have hf13 := HPX2.out _ _ _ _ _ _ hb11 hr11 hg13 ho13
      have hs13 := HBK.out _ _ hb12 hg13
      refine hK.out _ _ hs13 (fun hHeld => ?_)
      clear hK K
      (try simp only [Act.put, List.setIfInBounds_toArray, List.set_cons_zero, List.set_cons_succ])
      refine take_op (i := 14) (v := ?_) rfl (by kernel_rfl) (by kernel_rfl) (by kernel_rfl) (fun _ _ _ h => h) (Or.inl ⟨by rfl, ?_⟩) (by assumption) ?_
      rotate_left
      · (intro w' hSw; (try dsimp only at hSw); go_simp; (try with_reducible rfl))
      simp only [Act.put, List.setIfInBounds_toArray, List.set_cons_zero, List.set_cons_succ]
      refine wpAnyH_done (by kernel_rfl) ?_ _
      have HF := Lib.hid hf13
      clear hf13 hs13 ho13 hg13 hat13 HBS HBK HAL HOW HPX2 HPK HAC HL10 hb12 hs12 hb11 hs11 hr11 hb5 hs5 hb0 hx1
      go_wp2
      exact ⟨HF.out, by simp only [intOf]; have := HLT.out; omega⟩
    · obtain rfl : k = L := by omega
      have HF := Lib.hid (HFI2.out W u5 hI)
      clear hI HTL
      go_wp2
      exact HF.out
end Go.Proofs.YtfgajjfcjlejmaaDoor
