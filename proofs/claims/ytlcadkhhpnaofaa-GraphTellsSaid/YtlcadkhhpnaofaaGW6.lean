/-
  The search's iterator: its walk.
-/
import Derived.Test.YtlcadkhhpnaofaaGIt
import Derived.RangeFuncBound
import Derived.Shelf.Abstract
import Derived.Shelf.RegionOpen
import Derived.OwnWalkIn
import Derived.TacticsInMore
import Derived.LoopNIn
import Derived.LoopIn
import Derived.Scope
import Derived.StillTailTactics
namespace Go.Proofs.Ytlcadkhhpnaofaa
set_option maxRecDepth 100000
open Go Go.RowKit Gq
attribute [local go_sem] Oper.semAt_some

/-! In the midst of a level: j nodes of the front are done, and i edges of the next one. -/
def stE (R : Gr) (M : Mt) (F : List Nat) (j i : Nat) : Mt × List Nat := ((F.take j).flatMap (row R) ++ (row R (F.getD j 0)).take i).foldl exp1 (M, [])
theorem stE_00 (R : Gr) (M : Mt) (F : List Nat) : stE R M F 0 0 = (M, []) := by simp [stE]
theorem stE_succ {R : Gr} {M : Mt} {F : List Nat} {j i : Nat} (h : i < (row R (F.getD j 0)).length) : stE R M F j (i + 1) = exp1 (stE R M F j i) ((row R (F.getD j 0)).getD i 0) := by
  unfold stE
  rw [take_snoc' h, ← List.append_assoc, List.foldl_append]; rfl
theorem stE_full {R : Gr} {M : Mt} {F : List Nat} {j i : Nat} (hj : j < F.length) (h : (row R (F.getD j 0)).length ≤ i) : stE R M F j i = stE R M F (j + 1) 0 := by
  unfold stE
  rw [List.take_of_length_le h, take_snoc' hj]
  simp
theorem stE_end (R : Gr) (M : Mt) (F : List Nat) : stE R M F F.length 0 = expF R M F := by
  unfold stE expF
  rw [expF_flat]
  simp
theorem stE_exp {R : Gr} (hO : Ok R) {M : Mt} (hM : M.length = R.length) (F : List Nat) (j i : Nat) : (stE R M F j i).1.length = R.length ∧ (stE R M F j i).2.length ≤ 1024 ∧ ∀ x ∈ (stE R M F j i).2, x < R.length := by
  have hL : ∀ x ∈ (F.take j).flatMap (row R) ++ (row R (F.getD j 0)).take i, x < R.length := by
    intro x hx
    rcases List.mem_append.1 hx with h | h
    · obtain ⟨v, _, h⟩ := List.mem_flatMap.1 h
      exact hO.node v x h
    · exact hO.node _ x (List.mem_of_mem_take h)
  obtain ⟨N, hN⟩ := exp_all ((F.take j).flatMap (row R) ++ (row R (F.getD j 0)).take i) (M, []) (fun x hx => by show x < M.length; rw [hM]; exact hL x hx)
  have h2 : (stE R M F j i).2 = N := by show (List.foldl exp1 (M, []) _).2 = N; rw [hN.nxt]; simp
  refine ⟨by show (List.foldl exp1 (M, []) _).1.length = _; rw [hN.len]; exact hM, ?_, fun x hx => ?_⟩
  · rw [h2]
    have h3 := hN.cnt
    have h4 := cnt_le M
    have h5 := hO.size
    have h6 : cnt ((M, ([] : List Nat)).1) = cnt M := rfl
    omega
  · rw [h2] at hx
    exact hL x (hN.new x hx).2

/-- A row of a graph, with the blocks that are read. -/
theorem row_readS {w : World} {b : Nat} {R : Gr} {S : Nat → Prop} (h : GAt w b R S) {k : Nat} (hk : k < R.length) :
    ∃ g cap P c, S b ∧ S g ∧ w.cell? ⟨b, 0, none⟩ = some (.slice (some ⟨g, 0, none⟩) R.length cap) ∧ w.cell? ⟨g, k, none⟩ = some (.slice P (row R k).length c) ∧
      ∀ i, i < (row R k).length → ∃ q, P = some ⟨q, 0, none⟩ ∧ S q ∧ w.cell? ⟨q, i, none⟩ = some (.int .i64 (((row R k).getD i 0 : Nat) : Int)) := by
  obtain ⟨A, Vs, T, hc, hf, ht, hn, hb, hT, hr, _⟩ := h
  obtain ⟨g, cap, rfl, hg, hc2, _⟩ := ht.head hk
  obtain ⟨P, c, hv, _, _, _, hcell⟩ := (ht.row k hk).1.form
  rw [hv] at hc2
  refine ⟨g, cap, P, c, hb, hT g hg, hc, hc2, fun i hi => ?_⟩
  obtain ⟨q, rfl, h1, _⟩ := hcell i hi
  exact ⟨q, rfl, (hr k hk q (by rw [hv]; rfl)).1, h1⟩

/-- What the walk carries. -/
structure Env where
  R : Gr
  X : Nat → Prop
  W : World
  B : Nat
  J : (Nat → Prop) → List (Nat × Nat) → World → Prop
  xs : List (Nat × Nat)
  Me : Mt
def Outer (E : Env) (far : Nat) (vf : Value) (wr : World) : Prop := ∃ F M told G, Mid E.X E.W E.B E.J told M vf F (.slice none 0 0) [] G wr ∧ M.length = E.R.length ∧ (∀ x ∈ F, x < E.R.length) ∧ far ≤ E.R.length + 1 ∧
  (F = [] ∨ cnt M < E.R.length + 1 - far) ∧ told ++ (bfs E.R (E.R.length + 1 - far) M F far).1 = E.xs ∧ (bfs E.R (E.R.length + 1 - far) M F far).2 = E.Me ∧ F.length ≤ 1024
def lvl (F : List Nat) (far j : Nat) : List (Nat × Nat) := (F.take j).map (fun v => (v, far))
theorem lvl_split {F : List Nat} {j : Nat} (h : j < F.length) (far : Nat) : F.map (fun v => (v, far)) = lvl F far j ++ ((F.getD j 0, far) :: (F.drop (j + 1)).map (fun v => (v, far))) := by
  have e : F.getD j 0 = F[j] := by simp [List.getD, h]
  have h2 : F = F.take j ++ (F.getD j 0 :: F.drop (j + 1)) := by rw [e, ← List.drop_eq_getElem_cons h, List.take_append_drop]
  have := congrArg (List.map (fun v => (v, far))) h2
  rw [List.map_append, List.map_cons] at this
  exact this
theorem lvl_succ {F : List Nat} {j : Nat} (h : j < F.length) (far : Nat) : lvl F far (j + 1) = lvl F far j ++ [(F.getD j 0, far)] := by
  unfold lvl
  rw [take_snoc' h, List.map_append]; rfl
def Middle (E : Env) (told : List (Nat × Nat)) (M : Mt) (F : List Nat) (far : Nat) (vf : Value) (j : Nat) (v : Value) (wr : World) : Prop :=
  ∃ G, Mid E.X E.W E.B E.J (told ++ lvl F far j) (stE E.R M F j 0).1 vf F v (stE E.R M F j 0).2 G wr
def Inner (E : Env) (told : List (Nat × Nat)) (M : Mt) (F : List Nat) (far : Nat) (vf : Value) (j i : Nat) (v : Value) (wr : World) : Prop :=
  ∃ G, Mid E.X E.W E.B E.J (told ++ lvl F far (j + 1)) (stE E.R M F j i).1 vf F v (stE E.R M F j i).2 G wr
theorem Outer.turn {E : Env} (hO : Ok E.R) {far : Nat} {told : List (Nat × Nat)} {M : Mt} {F : List Nat} {vf v : Value} {wr : World} (h : Middle E told M F far vf F.length v wr) (hM : M.length = E.R.length) (hF : F ≠ []) (hfar : far ≤ E.R.length + 1)
    (hc : cnt M < E.R.length + 1 - far) (hx : told ++ (bfs E.R (E.R.length + 1 - far) M F far).1 = E.xs) (hm : (bfs E.R (E.R.length + 1 - far) M F far).2 = E.Me) : Outer E (far + 1) v wr := by
  obtain ⟨G, h⟩ := h
  rw [stE_end] at h
  obtain ⟨N, hN⟩ := expF_all hO F M hM
  have hn : (expF E.R M F).2 = N := by rw [hN.nxt]; simp
  have h2 := stE_exp hO hM F F.length 0
  rw [stE_end] at h2
  have e : E.R.length + 1 - far = (E.R.length + 1 - (far + 1)) + 1 := by omega
  rw [e, bfs_succ _ _ _ hF] at hx hm
  refine ⟨(expF E.R M F).2, (expF E.R M F).1, _, G, h.turn, h2.1, h2.2.2, by omega, ?_, ?_, hm, h2.2.1⟩
  · rw [hn]
    cases N with
    | nil => exact .inl rfl
    | cons x N =>
      right
      have := hN.cnt
      simp only [List.length_cons] at this
      omega
  · rw [← hx]
    unfold lvl
    rw [List.take_length, List.append_assoc]

/-- The consumer's side, as the walk asks it. -/
structure Env.Ok (E : Env) (n l a b pm pf pg : Nat) : Prop where
  ok : Gq.Ok E.R
  hj : ∀ G G' s A B, E.J G s A → Stp G G' A B → E.J G' s B
  hy : ∀ G pre x W1, E.J G pre W1 → pre ++ [x] <+: E.xs → YieldAt Fence.wide (n - 1) Try.prog l #[.int .i64 (x.1 : Int), .int .i64 (x.2 : Int)] W1 fun e W' => e = .returned (.bool true) ∧ E.J G (pre ++ [x]) W' ∧ KeepB (fun k => E.X k ∨ G k) W1 W'
  row : ∀ k, k < E.R.length → ∃ g cap P c, E.X b ∧ E.X g ∧ E.W.cell? ⟨b, 0, none⟩ = some (.slice (some ⟨g, 0, none⟩) E.R.length cap) ∧ E.W.cell? ⟨g, k, none⟩ = some (.slice P (row E.R k).length c) ∧
      ∀ i, i < (row E.R k).length → ∃ q, P = some ⟨q, 0, none⟩ ∧ E.X q ∧ E.W.cell? ⟨q, i, none⟩ = some (.int .i64 (((row E.R k).getD i 0 : Nat) : Int))
  xm : E.X pm
  xf : E.X pf
  xg : E.X pg
  xB : ¬ E.X E.B
  c1 : E.W.cell? ⟨pm, 0, none⟩ = some (.slice (some ⟨E.B, 0, none⟩) E.R.length E.R.length)
  c2 : E.W.cell? ⟨pf, 0, none⟩ = some (.int .i64 (a : Int))
  c3 : E.W.cell? ⟨pg, 0, none⟩ = some (.pointer (some ⟨b, 0, none⟩))

theorem Mid.up {X : Nat → Prop} {W : World} {B : Nat} {J : (Nat → Prop) → List (Nat × Nat) → World → Prop} {told : List (Nat × Nat)} {M : Mt} {vf v : Value} {F N : List Nat} {G : Nat → Prop} {wr : World} (h : Mid X W B J told M vf F v N G wr)
    {p : Addr} {u : Value} (hp : X p.block) (hc : W.cell? p = some u) : wr.cell? p = some u := (World.cell?_of_block (h.it.x _ hp)).trans hc

set_option maxHeartbeats 4000000 in
theorem search_walk (E : Env) (n l a b pm pf pg : Nat) (hn : 1 ≤ n) (HE : Hid (E.Ok n l a b pm pf pg)) (ha : a < E.R.length)
    (cB : ∃ u, E.W.cell? ⟨E.B, a, none⟩ = some u) (fB : E.W.frozen? ⟨E.B, a, none⟩ = false)
    (h0 : Hid (Outer E 0 (.slice (some ⟨E.W.heap.size, 0, none⟩) 1 1) ((E.W.setCell ⟨E.B, a, none⟩ (.bool true)).alloc (.cells #[.int .i64 (a : Int)] 3)))) :
    CallsIn Fence.wide n Try.prog 44 (#[.func (.yield l) #[] #[]] ++ #[.pointer (some ⟨pm, 0, none⟩), .pointer (some ⟨pf, 0, none⟩), .pointer (some ⟨pg, 0, none⟩)]) E.W
      fun e W' => (∃ v, e = .returned v) ∧ ∃ G, W'.heap[E.B]? = some (.cells (bs E.Me) 4 (0, 0)) ∧ E.J G E.xs W' := by
  obtain ⟨u0, cB⟩ := cB
  have c1 := HE.out.c1
  have c2 := HE.out.c2
  have hrn := HE.out.ok.size
  have c2B : (E.W.setCell ⟨E.B, a, none⟩ (.bool true)).cell? ⟨pf, 0, none⟩ = some (.int .i64 (a : Int)) := ((Kept.refl (fun k => k = E.B) E.W).setCell (p := ⟨E.B, a, none⟩) (.inl rfl) _).cell c2 (fun e => HE.out.xB (e ▸ HE.out.xf))
  obtain ⟨i0, hi, hz0, hz1, hz2⟩ := info_parts Try.infoInt
  obtain ⟨N, hN⟩ : ∃ N, N = E.R.length := ⟨_, rfl⟩
  rw [← hN] at ha hrn c1
  have HN := Lib.hid hN
  clear hN
  refine callsIn_of_wp Try.func44 rfl trivial ?_ rfl
  simp only [Try.ntmps44, List.size_toArray, List.length_cons, List.length_nil, Nat.reduceAdd, Nat.reduceSub, Array.replicate_succ, Array.replicate_zero, List.push_toArray, List.append_toArray, List.nil_append, List.cons_append]
  gi_wp2
  clear c1 c2 cB fB c2B
  gi_loopw [5, 6] (fun v u wr => ∃ far : Nat, u = .int .i64 (far : Int) ∧ Outer E far v wr) (fun _ u _ => N + 1 - (intOf u).toNat)
  case atStart => exact ⟨0, rfl, h0.out⟩
  case round =>
    obtain ⟨far, rfl, F, M, told, G, hmid, hM, hF, hfar, hc, hx, hme, hFl⟩ := hrel
    clear h0
    have HMid := Lib.hid hmid
    obtain ⟨P, cap, rfl, hcap, hcap2, hnil, hfc⟩ := hmid.fr.1.form
    clear hmid
    by_cases hF0 : F = []
    · subst hF0
      have HQ : Hid (∃ G, wr.heap[E.B]? = some (.cells (bs E.Me) 4 (0, 0)) ∧ E.J G E.xs wr) := by
        rw [bfs_nil] at hx hme
        refine ⟨G, ?_, ?_⟩
        · rw [← hme]; exact HMid.out.it.m
        · rw [← hx]; simpa using HMid.out.j
      clear HMid hfc hnil hx hme hc
      gi_wp2
      go_end0
      exact ⟨⟨_, rfl⟩, HQ.out⟩
    · have hpos : 0 < F.length := List.length_pos_iff.2 hF0
      have hc' : cnt M < E.R.length + 1 - far := by
        rcases hc with h | h
        · exact absurd h hF0
        · exact h
      have hfar2 : far ≤ N := by rw [HN.out]; omega
      have HC := Lib.hid hc'
      have HX := Lib.hid hx
      have HME := Lib.hid hme
      have HM := Lib.hid hM
      have HFn := Lib.hid hF
      have HF0 := Lib.hid hF0
      have HFC := Lib.hid hfc
      have HFAR := Lib.hid hfar
      clear hc hc' hx hme hM hF hF0 hfc hnil hfar
      obtain ⟨vf, hvf⟩ : ∃ vf, vf = Value.slice P F.length cap := ⟨_, rfl⟩
      have HV := Lib.hid hvf
      clear hvf
      have HS : Hid (Middle E told M F far vf 0 (.slice none 0 0) wr) := by
        refine ⟨G, ?_⟩
        rw [stE_00, HV.out]
        have : told ++ lvl F far 0 = told := by simp [lvl]
        rw [this]
        exact HMid.out
      clear HMid
      obtain ⟨m, hm⟩ : ∃ m, m = F.length := ⟨_, rfl⟩
      rw [← hm] at hpos hFl hcap ⊢
      have HMl := Lib.hid hm
      clear hm
      gi_wp2
      obtain ⟨wo, rfl⟩ : ∃ wo : World, wo = wr := ⟨_, rfl⟩
      gi_loopw [7, 24] (fun v u wi => ∃ j : Nat, j ≤ m ∧ u = .int .i64 (j : Int) ∧ Middle E told M F far vf j v wi) (fun _ u _ => m - (intOf u).toNat)
      case atStart => exact ⟨0, Nat.zero_le _, rfl, HS.out⟩
      case round =>
        obtain ⟨j, hj, rfl, G, hmid⟩ := hrel
        clear HS
        by_cases hlt : j < m
        · have hjF : j < F.length := by rw [← HMl.out]; exact hlt
          have hnode : F.getD j 0 < N := by
            rw [HN.out]
            apply HFn.out
            simp [List.getD, hjF]
          obtain ⟨P', cap', e', x1, x2, x3, hfc⟩ := hmid.fr.1.form
          clear x1 x2 x3
          rw [HV.out] at e'
          cases e'
          obtain ⟨gf, rfl, f1, x4⟩ := hfc j hjF
          clear x4
          have hpre : (told ++ lvl F far j) ++ [(F.getD j 0, far)] <+: E.xs := by
            rw [← HX.out]
            have e : E.R.length + 1 - far = (E.R.length + 1 - (far + 1)) + 1 := by have := HC.out; omega
            rw [e, bfs_succ _ _ _ HF0.out]
            refine ⟨(F.drop (j + 1)).map (fun v => (v, far)) ++ (bfs E.R (E.R.length + 1 - (far + 1)) (expF E.R M F).1 (expF E.R M F).2 (far + 1)).1, ?_⟩
            rw [lvl_split hjF]
            simp only [List.append_assoc, List.cons_append, List.nil_append]
          obtain ⟨fn, tmps, assign, body, hy, hR⟩ := HE.out.hy G _ (F.getD j 0, far) wr hmid.j hpre
          have HMid := Lib.hid hmid
          obtain ⟨g, gcap, Pr, rc, xb, xg, r1, r2, r3⟩ := HE.out.row (F.getD j 0) (by rw [← HN.out]; exact hnode)
          have HR3 := Lib.hid r3
          have HR2 := Lib.hid r2
          have HR1 := Lib.hid r1
          have HXB := Lib.hid xb
          have HXG := Lib.hid xg
          clear hmid hfc hpre r1 r2 r3 xb xg
          dsimp only at hy
          have hrl : (row E.R (F.getD j 0)).length ≤ 1024 := by have := HE.out.ok.len (F.getD j 0); have := HE.out.ok.size; omega
          obtain ⟨nd, hnd⟩ : ∃ nd, nd = F.getD j 0 := ⟨_, rfl⟩
          obtain ⟨rn, hrn'⟩ : ∃ rn, rn = (row E.R nd).length := ⟨_, rfl⟩
          rw [← hnd] at hnode f1 hy hR HR2 HR3 hrl
          rw [← HN.out] at HR1
          rw [← hrn'] at HR2 HR3 hrl
          have HND := Lib.hid hnd
          have HRN := Lib.hid hrn'
          clear hnd hrn'
          gi_wp2
          refine wpIn_wide.2 (wp_scope_straight ((wpIn_wide (n := n)).1 ?_))
          gi_wp2
          refine hR.mono ?_
          rintro e W' ⟨rfl, hJ', hk'⟩
          have HMid' := Lib.hid (HMid.out.round hJ' hk')
          clear hy hR hJ' hk' f1 HMid
          have d3 := HMid'.out.up HE.out.xg HE.out.c3
          have r1 := HMid'.out.up HXB.out HR1.out
          have r2 := HMid'.out.up HXG.out HR2.out
          have HS : Hid (∀ v : Value, v = u7 → Inner E told M F far vf j 0 v W') := by
            rintro v rfl
            refine ⟨G, ?_⟩
            rw [lvl_succ hjF, ← List.append_assoc, ← HND.out]
            exact HMid'.out
          gi_wp2
          refine wpIn_label ?_
          gi_wp2
          refine wpIn_wide.2 ?_
          clear d3 r1 r2
          go_loopw [7, 41] (fun v u wi => ∃ i : Nat, i ≤ rn ∧ u = .int .i64 (i : Int) ∧ Inner E told M F far vf j i v wi) (fun _ u _ => rn - (intOf u).toNat)
          case atStart => exact ⟨0, Nat.zero_le _, rfl, HS.out _ rfl⟩
          case round =>
            obtain ⟨i, hi', rfl, G, hmid⟩ := hrel
            clear HS HMid'
            by_cases hlt2 : i < rn
            · have hto : (row E.R nd).getD i 0 < N := by
                rw [HN.out]
                apply HE.out.ok.node nd
                have : i < (row E.R nd).length := by rw [← HRN.out]; exact hlt2
                simp [List.getD, this]
              obtain ⟨q, rfl, xq, r3⟩ := HR3.out i hlt2
              have r3' := hmid.up xq r3
              have d1 := hmid.up HE.out.xm HE.out.c1
              rw [← HN.out] at d1
              have hsl := stE_exp HE.out.ok HM.out F j i
              have hmB := blk_cell hmid.it.m ((row E.R nd).getD i 0)
              rw [bs_get (by rw [hsl.1, ← HN.out]; exact hto)] at hmB
              have hmF := blk_free hmid.it.m ((row E.R nd).getD i 0)
              have hst : stE E.R M F j (i + 1) = exp1 (stE E.R M F j i) ((row E.R nd).getD i 0) := by
                rw [HND.out]
                exact stE_succ (by rw [← HND.out, ← HRN.out]; exact hlt2)
              have HMid := Lib.hid hmid
              have HST := Lib.hid hst
              have hNl := hsl.2.1
              clear hmid xq r3 hsl hst
              obtain ⟨to, hto'⟩ : ∃ to, to = (row E.R nd).getD i 0 := ⟨_, rfl⟩
              rw [← hto'] at hto r3' hmB hmF HST
              clear hto'
              cases hmt : mtb (stE E.R M F j i).1 to with
              | true =>
                rw [hmt] at hmB
                have HQ : Hid (Inner E told M F far vf j (i + 1) u7 wr) := by
                  refine ⟨G, ?_⟩
                  rw [HST.out]
                  unfold exp1
                  rw [if_pos hmt]
                  exact HMid.out
                clear hmt HMid
                go_wp2
                go_roundw
                case rel => exact ⟨i + 1, by omega, by go_num, HQ.out⟩
                case measure => simp [intOf]; omega
              | false =>
                rw [hmt] at hmB
                have HM2 := Lib.hid ((HMid.out.store HE.out.hj to).still HE.out.hj ((Kept.refl _ _).alloc (.cells #[.int .i64 (to : Int)] 3)))
                have HO : Hid (World.ownsRow ((wr.setCell ⟨E.B, to, none⟩ (.bool true)).alloc (.cells #[.int .i64 (to : Int)] 3)) 0 3 1 u7 (stE E.R M F j i).2.length (nis (stE E.R M F j i).2)) := HM2.out.nx.1
                have hnew : ∀ j u, [Value.int .i64 (to : Int)][j]? = some u → World.cell? ((wr.setCell ⟨E.B, to, none⟩ (.bool true)).alloc (.cells #[.int .i64 (to : Int)] 3)) ((⟨wr.heap.size, 0, none⟩ : Addr).add j) = some u := by
                  have := World.news_of_block (heap_alloc_new (wr.setCell ⟨E.B, to, none⟩ (.bool true)) (.cells #[.int .i64 (to : Int)] 3))
                  simpa using this
                have HNEW := Lib.hid hnew
                have HQ : Hid (∀ g2 cap2 w2, World.ownsRow w2 0 3 1 (.slice (some ⟨g2, 0, none⟩) ((stE E.R M F j i).2.length + 1) cap2) ((stE E.R M F j i).2.length + 1) (nis (stE E.R M F j i).2 ++ [.int .i64 (to : Int)]) →
                    World.grownBy ((wr.setCell ⟨E.B, to, none⟩ (.bool true)).alloc (.cells #[.int .i64 (to : Int)] 3)) w2 u7.ownBlock → (u7.ownBlock = some g2 ∨ g2 = wr.heap.size + 1) → g2 < w2.heap.size →
                    Inner E told M F far vf j (i + 1) (.slice (some ⟨g2, 0, none⟩) ((stE E.R M F j i).2.length + 1) cap2) w2) := by
                  intro g2 cap2 w2 ho hg hat hlt
                  obtain ⟨G', h'⟩ := HM2.out.append HE.out.hj (H := wr.heap.size + 1) (by simp) ho hg hat hlt
                  refine ⟨G', ?_⟩
                  rw [HST.out]
                  unfold exp1
                  rw [if_neg (by simp [hmt])]
                  exact h'
                clear hmt HMid HM2 hnew
                obtain ⟨r, hr⟩ : ∃ r, r = (stE E.R M F j i).2.length := ⟨_, rfl⟩
                rw [← hr] at hNl HO HQ
                have HRr := Lib.hid hr
                clear hr
                generalize nis (stE E.R M F j i).2 = xs at *
                go_wp2_with (at_builtin; refine wpList_append_lies _ rfl (.tmp 52) (.tmp 54) 34 rfl 0 3 i0 (.int .i64 0) 1 8 Try.underlying34 hi hz0 hz1 hz2 rfl (by decide) u7 r xs rfl HO.out ⟨wr.heap.size, 0, none⟩ 1 1 [.int .i64 (to : Int)] rfl rfl HNEW.out (by intro u hu; simp at hu; subst hu; rfl) (by decide) (by unfold maxLen; omega) (by omega) (Nat.zero_le _) (wr.heap.size + 1) (by simp) ?_; intro g2 cap2 w2 ho2 hg2 hat2 hlt3)
                have HQ2 := Lib.hid (HQ.out _ _ _ ho2 hg2 hat2 hlt3)
                clear ho2 hg2 hat2 hlt3 HQ
                go_wp2
                go_roundw
                case rel => exact ⟨i + 1, by omega, by go_num, HQ2.out⟩
                case measure => simp [intOf]; omega
            · obtain rfl : i = rn := by omega
              have HQ : Hid (Middle E told M F far vf (j + 1) u7 wr) := by
                refine ⟨G, ?_⟩
                rw [← stE_full (i := i) hjF (by rw [← HND.out, ← HRN.out]; exact Nat.le_refl _)]
                exact hmid
              clear hmid
              go_wp2
              rw [Exit.noGoto_normal]
              gi_wp2
              go_roundw
              case rel => exact ⟨j + 1, by omega, by go_num, HQ.out⟩
              case measure => simp [intOf]; omega
        · obtain rfl : j = m := by omega
          have HQ : Hid (Outer E (far + 1) u7 wr) := by
            refine Outer.turn HE.out.ok (M := M) (F := F) (told := told) (vf := vf) ?_ HM.out HF0.out HFAR.out HC.out HX.out HME.out
            rw [← HMl.out]
            exact ⟨G, hmid⟩
          clear hmid
          gi_wp2
          go_roundw
          case rel => exact ⟨far + 1, by go_num, HQ.out⟩
          case measure => simp [intOf]; omega

/-- The search's iterator, as a range over it asks. -/
theorem search_tells (n : Nat) (hn : 1 ≤ n) {w : World} {b B pm pf pg a : Nat} {R : Gr} {S : Nat → Prop} {M0 : Mt} (h : GAt w b R S) (hO : Ok R) (ha : a < R.length) (hM0 : M0.length = R.length)
    (hm : w.heap[B]? = some (.cells (bs M0) 4 (0, 0))) (c1 : w.cell? ⟨pm, 0, none⟩ = some (.slice (some ⟨B, 0, none⟩) R.length R.length)) (c2 : w.cell? ⟨pf, 0, none⟩ = some (.int .i64 (a : Int))) (c3 : w.cell? ⟨pg, 0, none⟩ = some (.pointer (some ⟨b, 0, none⟩)))
    (hB : ¬ (S B ∨ B = pm ∨ B = pf ∨ B = pg)) :
    Tells n Try.prog 44 #[.pointer (some ⟨pm, 0, none⟩), .pointer (some ⟨pf, 0, none⟩), .pointer (some ⟨pg, 0, none⟩)] (fun x : Nat × Nat => #[.int .i64 (x.1 : Int), .int .i64 (x.2 : Int)])
      (fun k => S k ∨ k = pm ∨ k = pf ∨ k = pg) (fun k => k = B) (fun _ W' => W'.heap[B]? = some (.cells (bs (metN R M0 a)) 4 (0, 0))) (tells R M0 a) w := by
  intro l J W hW hJ hY h0
  have hGW := h.below hW (Nat.le_refl _)
  have up : ∀ {p : Addr} {v : Value}, w.cell? p = some v → W.cell? p = some v := fun hp => (hW.cell (World.block_lt_of_cell? w _ hp)).trans hp
  have hmW : W.heap[B]? = some (.cells (bs M0) 4 (0, 0)) := by rw [hW.block B (blk_lt hm)]; exact hm
  have hsW : ∀ k, S k ∨ k = pm ∨ k = pf ∨ k = pg → k < W.heap.size := by
    rintro k (hk | rfl | rfl | rfl)
    · exact hGW.lt k hk
    · exact World.block_lt_of_cell? W _ (up c1)
    · exact World.block_lt_of_cell? W _ (up c2)
    · exact World.block_lt_of_cell? W _ (up c3)
  have hi0 : ItAt (fun k => S k ∨ k = pm ∨ k = pf ∨ k = pg) (fun k => k = B) W B M0 W := ⟨fun _ _ => rfl, hmW, rfl, fun k hk => by subst hk; exact ⟨hB, blk_lt hmW⟩, hsW⟩
  have hj1 : J (fun k => k = B) [] (W.setCell ⟨B, a, none⟩ (.bool true)) := hJ _ _ _ _ _ h0 ⟨(Kept.refl (fun k => k = B) W).setCell (p := ⟨B, a, none⟩) (.inl rfl) _, fun k hk => .inl hk⟩
  refine search_walk ⟨R, fun k => S k ∨ k = pm ∨ k = pf ∨ k = pg, W, B, J, tells R M0 a, metN R M0 a⟩ n l a b pm pf pg hn ⟨hO, hJ, hY, fun k hk => ?_, .inr (.inl rfl), .inr (.inr (.inl rfl)), .inr (.inr (.inr rfl)), hB, up c1, up c2, up c3⟩ ha ⟨_, by rw [blk_cell hmW]; exact bs_get (by omega)⟩ (blk_free hmW a) ?_
  · obtain ⟨g, cap, P, c, h1, h2, h3, h4, h5⟩ := row_readS hGW hk
    refine ⟨g, cap, P, c, .inl h1, .inl h2, h3, h4, fun i hi => ?_⟩
    obtain ⟨q, h6, h7, h8⟩ := h5 i hi
    exact ⟨q, h6, .inl h7, h8⟩
  · obtain ⟨G', hmid⟩ := Mid.first hJ (hi0.store a) hj1 a
    refine ⟨[a], M0.set a true, [], G', ?_, by simp [hM0], by simpa using ha, Nat.zero_le _, .inr ?_, by simp [tells], rfl, by simp⟩
    · have e : (W.setCell ⟨B, a, none⟩ (.bool true)).heap.size = W.heap.size := by simp
      rw [e] at hmid
      exact hmid
    · have := cnt_le (M0.set a true)
      simp only [List.length_set] at this
      show _ < R.length + 1 - 0
      omega

theorem gsearch_any (w : World) (b a B m c : Nat) :
    Calls Try.prog 32 #[.pointer (some ⟨b, 0, none⟩), .int .i64 (a : Int), .slice (some ⟨B, 0, none⟩) m c] w fun e w' =>
      e = .returned (.func (.func 44) #[] #[.pointer (some ⟨w.heap.size + 2, 0, none⟩), .pointer (some ⟨w.heap.size + 1, 0, none⟩), .pointer (some ⟨w.heap.size, 0, none⟩)]) ∧
      w' = ((w.alloc (.cells #[.pointer (some ⟨b, 0, none⟩)] 23)).alloc (.cells #[.int .i64 (a : Int)] 3)).alloc (.cells #[.slice (some ⟨B, 0, none⟩) m c] 53) := by
  go_enter Try.func32, Try.ntmps32
  go_wp2
  go_ret
  exact ⟨rfl, rfl⟩
end Go.Proofs.Ytlcadkhhpnaofaa
