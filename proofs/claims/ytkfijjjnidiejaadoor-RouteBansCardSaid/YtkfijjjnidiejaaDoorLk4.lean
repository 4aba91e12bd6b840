/-
  look: one round of its loop.
-/
import Derived.Test.YtkfijjjnidiejaaDoorLk3
import Derived.Maps.OwnSet
import Derived.StillTailTactics
namespace Go.Proofs.YtkfijjjnidiejaaDoor
set_option maxRecDepth 100000
set_option linter.unusedSimpArgs false
open Go Go.RowKit Rq
attribute [local go_sem] Oper.semAt_some

theorem left_mk (bs : Nat) (w : World) :
    Calls Tryd.prog 44 #[.pointer (some ⟨bs, 0, none⟩)] w fun e w' => e = .returned (.func (.func 62) #[] #[.pointer (some ⟨w.heap.size, 0, none⟩)]) ∧
      w' = w.alloc (.cells #[.pointer (some ⟨bs, 0, none⟩)] 63) := by
  have hmf : ∀ (fn : Fn) (first cap : Array Value) (w : World), (Instr.makeFunc fn first cap).run Tryd.prog w = .ok (.func fn first cap) w := fun _ _ _ _ => rfl
  go_enter Tryd.func44, Tryd.ntmps44
  go_wp2
  go_ret
  exact ⟨rfl, rfl⟩
theorem bef_mk (bs c : Nat) (w : World) :
    Calls Tryd.prog 50 #[.pointer (some ⟨bs, 0, none⟩), .int .i64 (c : Int)] w fun e w' => e = .returned (.func (.func 66) #[] #[.pointer (some ⟨w.heap.size, 0, none⟩), .pointer (some ⟨w.heap.size + 1, 0, none⟩)]) ∧
      w' = (w.alloc (.cells #[.pointer (some ⟨bs, 0, none⟩)] 63)).alloc (.cells #[.int .i64 (c : Int)] 3) := by
  have hmf : ∀ (fn : Fn) (first cap : Array Value) (w : World), (Instr.makeFunc fn first cap).run Tryd.prog w = .ok (.func fn first cap) w := fun _ _ _ _ => rfl
  go_enter Tryd.func50, Tryd.ntmps50
  go_wp2
  go_ret
  exact ⟨rfl, rfl⟩

def lpNode : Code → Option Code
  | .seq a b => (lpNode a).orElse fun _ => lpNode b
  | .block _ c => lpNode c
  | .scope c => lpNode c
  | .loop c => some c
  | _ => none

/-- The loop's frame. -/
def frL (f : Nat → Value) (z : Nat) (bud : Int) : Array Value := #[f 0, .int .i64 bud, .pointer (some ⟨z, 0, none⟩), f 3, f 4, .pointer (some ⟨z + 1, 0, none⟩), .pointer (some ⟨z + 3, 0, none⟩), .pointer (some ⟨z + 4, 0, none⟩), f 8, f 9, f 10, f 11, f 12, f 13, f 14, f 15, f 16, f 17, f 18, f 19, f 20, f 21, f 22, f 23, f 24, f 25, f 26, f 27, f 28, f 29, f 30, f 31, f 32, f 33, f 34, f 35, f 36, f 37, f 38, f 39, f 40, f 41, f 42, f 43, f 44, f 45, f 46, f 47, f 48, f 49, f 50, f 51, f 52, f 53, f 54, f 55, f 56, f 57, f 58, f 59, f 60, f 61, f 62, f 63, f 64, f 65, f 66, f 67, f 68, f 69, f 70, f 71, f 72, f 73, f 74, f 75, f 76, f 77, f 78, f 79, f 80, f 81, f 82, f 83, f 84, f 85, f 86]
structure FrL (z : Nat) (bud : Int) (a : Array Value) : Prop where
  sz : a.size = 87
  s1 : a[1]? = some (.int .i64 bud)
  s2 : a[2]? = some (.pointer (some ⟨z, 0, none⟩))
  s5 : a[5]? = some (.pointer (some ⟨z + 1, 0, none⟩))
  s6 : a[6]? = some (.pointer (some ⟨z + 3, 0, none⟩))
  s7 : a[7]? = some (.pointer (some ⟨z + 4, 0, none⟩))
theorem FrL.fr {z : Nat} {bud : Int} {a : Array Value} (h : FrL z bud a) : a = frL (fun j => a.getD j undef) z bud := by
  obtain ⟨hs, h1, h2, h5, h6, h7⟩ := h
  obtain ⟨l⟩ := a
  rw [List.size_toArray] at hs
  iterate 87 (rcases l with _ | ⟨_, l⟩; · (simp only [List.length_cons, List.length_nil] at hs; omega))
  rcases l with _ | ⟨_, l⟩
  · obtain rfl := Option.some.inj h1
    obtain rfl := Option.some.inj h2
    obtain rfl := Option.some.inj h5
    obtain rfl := Option.some.inj h6
    obtain rfl := Option.some.inj h7
    rfl
  · simp only [List.length_cons] at hs; omega

/-- What stands ahead of a round. -/
structure LkI (E : Env) (w0 : World) (M : List (Nat × Nat)) (s : List Pq.It) (W : World) : Prop where
  lo : Lo E w0 M s W
  sta : StaE E M s none []
  its : ItsB E s
  len : s.length ≤ 1 + 4 * M.length
/-- Marks stay. -/
structure Mks (W W' : World) : Prop where
  size : W.heap.size ≤ W'.heap.size
  mks : ∀ (D : Nat), W.heap[D]? = some (.deferred (some [])) → W'.heap[D]? = some (.deferred (some []))
theorem Mks.refl (W : World) : Mks W W := ⟨Nat.le_refl _, fun _ h => h⟩
theorem Mks.trans {A B C : World} (h : Mks A B) (k : Mks B C) : Mks A C := ⟨Nat.le_trans h.size k.size, fun D hD => k.mks D (h.mks D hD)⟩
theorem LoP.mks {E : Env} {w0 W W' : World} {M : List (Nat × Nat)} {s : List Pq.It} (h : LoP E w0 M s W W') : Mks W W' := ⟨h.kp.size, fun D hD => h.non D _ hD rfl⟩
theorem Mks.of_kept {W W' : World} (h : Kept (fun _ => False) W W') : Mks W W' := ⟨h.size, fun D hD => (h.block D (blk_lt hD) id).trans hD⟩

def LkAll (E : Env) (M : List (Nat × Nat)) : Prop := ∀ x y, (x, y) ∈ M ↔ Lk (ins E.R E.C E.ms) (mayF E) E.to_ E.fr (lftF E) x y

theorem LkI.mlen {E : Env} {w0 W : World} {M : List (Nat × Nat)} {s : List Pq.It} (h : LkI E w0 M s W) : M.length ≤ E.N := h.sta.len

theorem lft_small {E : Env} {w0 : World} (H : LoH E w0) {c : Nat} (h2 : c < E.N) : lftF E c ≤ 3000 := by
  have h1 := H.fr
  have hN := H.N
  have h3 := lft_int h1 h2
  have hN' : E.N = E.ms.length := rfl
  have e1 : E.fr / E.C ≤ E.fr := Nat.div_le_self _ _
  have e2 : c / E.C ≤ c := Nat.div_le_self _ _
  have e3 : E.fr % E.C ≤ E.fr := Nat.mod_le _ _
  have e4 : c % E.C ≤ c := Nat.mod_le _ _
  have k1 : (0 : Int) ≤ ((E.fr / E.C : Nat) : Int) := Int.natCast_nonneg _
  have k2 : (0 : Int) ≤ ((c / E.C : Nat) : Int) := Int.natCast_nonneg _
  have k3 : (0 : Int) ≤ ((E.fr % E.C : Nat) : Int) := Int.natCast_nonneg _
  have k4 : (0 : Int) ≤ ((c % E.C : Nat) : Int) := Int.natCast_nonneg _
  unfold farZ at h3
  rw [if_pos (by omega)] at h3
  unfold apartZ at h3
  simp only [Int.toNat_natCast] at h3
  omega

theorem Mks.map {W W' : World} {m : Nat} {M : List (Nat × Nat)} (h : MapM W m M) (hg : W.grownBy W' (some m)) : Mks W W' := by
  refine ⟨hg.size, fun D hD => (hg.block D (blk_lt hD) (fun e => ?_)).trans hD⟩
  obtain rfl := Option.some.inj e
  obtain ⟨Dm, ⟨es, clock, hb, _⟩, _⟩ := h
  rw [hb] at hD; cases hD

theorem map_look {W : World} {m c d : Nat} {M : List (Nat × Nat)} (h : MapM W m M) (hm : (c, d) ∈ M) (hc : c ≤ 100000) :
    (Instr.lookup 67 (.map (some m)) (.int .i64 (c : Int)) false).run Tryd.prog W = .ok (.int .i64 (d : Int)) W := by
  obtain ⟨D, hD⟩ := h
  obtain ⟨z, h1, h2, _⟩ := hD.1.lookup_int dkeyed Tryd.underlying67 Tryd.underlying3 (dzero W) (dkey hc)
  rw [h1, hD.at_ hm h2]

theorem inner_at {n : Nat} (hn : 3 ≤ n) {Q : Exit → Act → World → Prop} (code : Code) (hcode : rfNode ((Tryd.f29).body.getD .skip) = some code)
    {E : Env} {w0 w : World} (H : LoH E w0) {M : List (Nat × Nat)} {s : List Pq.It} {c d p10 bx bc n0 : Nat} (a : Array Value) (ds : List Deferred) (ha : a = frI (fun j => a.getD j undef) w0.heap.size p10 bx bc)
    (h0 : RnI E w0 w M c d p10 n0 [] w s) (hcd : (c, d) ∈ M) (hmax : ∀ x y, (x, y) ∈ M → y + lftF E x ≤ d + lftF E c) (hn0 : n0 ≤ 9000)
    (h1 : w.cell? ⟨bx, 0, none⟩ = some (.pointer (some ⟨E.bs, 0, none⟩))) (h2 : w.cell? ⟨bc, 0, none⟩ = some (.int .i64 (c : Int)))
    (l1 : w0.heap.size + 5 ≤ bx) (l2 : w0.heap.size + 5 ≤ bc) (l3 : w0.heap.size + 5 ≤ p10) (n3 : ¬ PB (w0.heap.size + 1) w bx)
    (hdone : ∀ (D : Nat) (W : World) (s' : List Pq.It), w.heap.size ≤ D → Lo E w0 M s' W → StaE E M s' none [] → ItsB E s' → s'.length ≤ n0 + 4 → (∀ (k : Nat) (o : Obj), w.heap[k]? = some o → o.isCells = false → W.heap[k]? = some o) → w.heap.size ≤ W.heap.size →
      W.heap[D]? = some (.deferred (some [])) → Q .normal { tmps := a, defers := { target := .collected D, args := #[] } :: ds } W) :
    code.wpIn Fence.wide n Tryd.prog Q { tmps := a, defers := ds } w := by
  have := inner_any hn code hcode H (fun j => a.getD j undef) ds (Q := Q) h0 hcd hmax hn0 h1 h2 l1 l2 l3 n3 (by rw [← ha]; exact hdone)
  rw [← ha] at this
  exact this

set_option maxHeartbeats 4000000 in
theorem look_round {n : Nat} (hn : 3 ≤ n) {Q : Exit → Act → World → Prop} (code : Code) (hcode : lpNode ((Tryd.f29).body.getD .skip) = some code)
    {E : Env} {w0 W : World} (H : LoH E w0) {M : List (Nat × Nat)} {s : List Pq.It} (h : LkI E w0 M s W) (f : Nat → Value) (bud : Int) (ds : List Deferred)
    (hout : bud < (M.length : Int) → ∀ a, FrL w0.heap.size bud a → Q (.exit 0) { tmps := a, defers := ds } W)
    (hret : ∀ (a : Array Value) (s' : List Pq.It) (W' : World), (M.length : Int) ≤ bud → a[4]? = some (.bool true) → Lo E w0 M s' W' → LkAll E M → Mks W W' → Q .ret { tmps := a, defers := ds } W')
    (hgo : ∀ (a : Array Value) (ds' : List Deferred) (M' : List (Nat × Nat)) (s' : List Pq.It) (W' : World), FrL w0.heap.size bud a → LkI E w0 M' s' W' → 5 * (E.N - M'.length) + s'.length < 5 * (E.N - M.length) + s.length → Mks W W' →
      (ds' = ds ∨ ∃ D, W.heap.size ≤ D ∧ W'.heap[D]? = some (.deferred (some [])) ∧ ds' = { target := .collected D, args := #[] } :: ds) → Q .normal { tmps := a, defers := ds' } W') :
    code.wpIn Fence.wide n Tryd.prog Q { tmps := frL f w0.heap.size bud, defers := ds } W := by
  simp only [Tryd.f29, Option.getD_some, lpNode, Option.orElse_none, Option.orElse_some, Option.some.injEq, reduceCtorEq] at hcode
  subst hcode
  have hl := H.lts
  have hNn := H.N
  have hfr := H.fr
  obtain ⟨D, hD⟩ := h.lo.map
  have hlen := hD.1.len Tryd.underlying67 3
  rw [hD.2.1] at hlen
  have f2 := h.lo.c2
  have f4 := h.lo.obj.c4
  have HI := Lib.hid h
  have HO := Lib.hid hout
  have HR := Lib.hid hret
  have HG := Lib.hid hgo
  have hML := h.mlen
  clear hout hret hgo h hD
  generalize hL : M.length = L at *
  unfold frL
  by_cases hb : (L : Int) ≤ bud
  · have d1 : decide ((L : Int) ≤ bud) = true := decide_eq_true hb
    refine wpIn_wide.2 ?_
    cases s with
    | nil =>
      have HP := Lib.hid (lo_none HI.out.lo)
      go_wp2_with fail
      go_step3
      go_wp2_with fail
      refine HP.out.mono ?_
      rintro e w1 ⟨rfl, hlo, hk⟩
      have HL1 := Lib.hid hlo
      have HM1 := Lib.hid (Mks.of_kept hk)
      clear hlo hk HP hlen f2 f4
      go_wp2
      go_quiet (fail)
      go_wp2
      try rw [Exit.noGoto_ret]
      refine HR.out _ [] _ hb rfl (HL1.out.still (((Kept.refl _ w1).alloc _).drewN nq)) (fun x y => ?_) (HM1.out.trans (Mks.of_kept (((Kept.refl _ w1).alloc _).drewN nq)))
      exact HI.out.sta.empty H.lft x y
    | cons x s =>
      obtain ⟨d, c, rfl, hdN⟩ := HI.out.its x (by simp)
      have hsl := HI.out.len
      have HP := Lib.hid (lo_pop H HI.out.lo (by simp only [List.length_cons] at hsl; omega))
      obtain ⟨d', c', e1, hcN, _⟩ := HI.out.sta.its _ (List.mem_cons_self ..)
      obtain ⟨rfl, rfl⟩ := item_inj e1
      have hlf : lftF E c ≤ 3000 := lft_small H hcN
      have HSL := Lib.hid hsl
      clear e1 hsl
      have HIt : Hid (((d + lftF E c : Nat) : Int) = (d : Int) + (lftF E c : Int)) := by show _ = _; omega
      simp only [item] at HP
      go_wp2_with fail
      go_step3
      go_wp2_with fail
      refine HP.out.mono ?_
      rintro e w1 ⟨rfl, hlo⟩
      have HL1 := Lib.hid hlo.lo
      have HM1 := Lib.hid hlo.mks
      obtain ⟨r1, q1, _, _⟩ := hlo.lo.pile
      have HPB : Hid (∀ k, PB (w0.heap.size + 1) w1 k → k < w1.heap.size) := fun k hk => q1.lt k ((q1.pb k).1 hk)
      have HZ1 : Hid (w0.heap.size + 5 ≤ w1.heap.size) := hlo.lo.sz
      clear hlo HP hlen f2 f4 q1
      go_wp2
      generalize hW2 : w1.alloc (.cells #[.int .i64 ((d : Int) + (lftF E c : Int)), .int .i64 ((lftF E c : Nat) : Int), .int .i64 (c : Int)] 89) = W2
      have hnew : W2.heap[w1.heap.size]? = some (.cells #[.int .i64 ((d : Int) + (lftF E c : Int)), .int .i64 ((lftF E c : Nat) : Int), .int .i64 (c : Int)] 89 (0, 0)) := by rw [← hW2]; exact heap_alloc_new w1 _
      have K2 : Kept (fun _ => False) w1 W2 := by rw [← hW2]; exact (Kept.refl _ w1).alloc _
      have s2 : W2.heap.size = w1.heap.size + 1 := by rw [← hW2]; simp
      have HS2 := Lib.hid s2
      have HK2 := Lib.hid K2
      have HL2 := Lib.hid (HL1.out.still K2)
      have g0 : W2.cell? ⟨w1.heap.size, 0, none⟩ = some (.int .i64 ((d : Int) + (lftF E c : Int))) := by rw [blk_cell hnew]; rfl
      have g1 : W2.cell? ⟨w1.heap.size, 1, none⟩ = some (.int .i64 ((lftF E c : Nat) : Int)) := by rw [blk_cell hnew]; rfl
      have g2 : W2.cell? ⟨w1.heap.size, 2, none⟩ = some (.int .i64 (c : Int)) := by rw [blk_cell hnew]; rfl
      have f2 := HL2.out.c2
      have k1 := HL2.out.obj.c1
      have k4 := HL2.out.obj.c4
      have HF : Hid (∀ n, Calls Tryd.prog 30 #[.pointer (some ⟨E.bs, 0, none⟩)] (W2.drewN n) fun e w' => e = .returned (.bool (metB M E.fr)) ∧ ∃ k, w' = (W2.drewN n).drewN k) := fun n => by
        refine (found_any (HL2.out.obj.drewN n) (HL2.out.map.kept ((Kept.refl (fun _ => False) W2).drewN n) id) (by omega)).mono ?_
        rintro e w' ⟨rfl, rfl⟩
        exact ⟨rfl, 0, rfl⟩
      clear hW2 hnew K2 s2
      have hcase : (∃ D0, metB M E.fr = true ∧ (E.fr, D0) ∈ M ∧ D0 < d + lftF E c) ∨ (metB M E.fr = false ∧ ∀ D, (E.fr, D) ∈ M → d + lftF E c ≤ D) ∨ (∃ D0, metB M E.fr = true ∧ (E.fr, D0) ∈ M ∧ ∀ D, (E.fr, D) ∈ M → d + lftF E c ≤ D) := by
        cases hm : metB M E.fr with
        | false => exact .inr (.inl ⟨rfl, fun D hD => absurd ⟨D, hD⟩ (metB_false.1 hm)⟩)
        | true =>
          obtain ⟨D0, hD0⟩ := metB_true.1 hm
          rcases Nat.lt_or_ge D0 (d + lftF E c) with h1 | h1
          · exact .inl ⟨D0, rfl, hD0, h1⟩
          · exact .inr (.inr ⟨D0, rfl, hD0, fun D hD => by rw [(HI.out.sta.mt _ _ hD).2.uniq (HI.out.sta.mt _ _ hD0).2]; exact h1⟩)
      rcases hcase with ⟨D0, hm, hD0, hov⟩ | hcase
      · have hlk := fun n => map_look (HL2.out.map.kept ((Kept.refl (fun _ => False) W2).drewN n) id) hD0 (by omega)
        have hlk0 := map_look HL2.out.map hD0 (by omega)
        have dd : decide ((D0 : Int) < (d : Int) + (lftF E c : Int)) = true := decide_eq_true (by omega)
        rw [hm] at HF
        go_quiet ((go_at_call 30; exact Calls.quiet_of (HF.out _)))
        go_wp2
        try rw [Exit.noGoto_ret]
        refine HR.out _ s _ hb rfl (HL2.out.still ((Kept.refl _ W2).drewN nq)) (fun x y => ?_) (HM1.out.trans (Mks.of_kept (HK2.out.trans ((Kept.refl _ W2).drewN nq) (fun _ _ h => h))))
        exact HI.out.sta.over H.lft HI.out.lo.pile.choose_spec.1.srt hD0 hov x y
      · rcases hcase with ⟨hm, hDD⟩ | ⟨D0, hm, hD0, hDD⟩
        · have HDD := Lib.hid hDD
          clear hDD
          rw [hm] at HF
          go_quiet ((go_at_call 30; exact Calls.quiet_of (HF.out _)))
          generalize hW3 : W2.drewN nq = W3
          have K3 : Hid (Kept (fun _ => False) w1 W3) := by
            show Kept _ w1 W3
            rw [← hW3]; exact HK2.out.trans ((Kept.refl _ W2).drewN nq) (fun _ _ h => h)
          have HL3 := Lib.hid (HL1.out.still K3.out)
          have HS3 : Hid (W3.heap.size = w1.heap.size + 1) := by
            show W3.heap.size = _
            rw [← hW3]; exact HS2.out
          have t0 : W3.cell? ⟨w1.heap.size, 0, none⟩ = some (.int .i64 ((d : Int) + (lftF E c : Int))) := by rw [← hW3]; exact g0
          have t1 : W3.cell? ⟨w1.heap.size, 1, none⟩ = some (.int .i64 ((lftF E c : Nat) : Int)) := by rw [← hW3]; exact g1
          have t2 : W3.cell? ⟨w1.heap.size, 2, none⟩ = some (.int .i64 (c : Int)) := by rw [← hW3]; exact g2
          have f2' := HL3.out.c2
          have k4' := HL3.out.obj.c4
          have HMt := Lib.hid (lo_met HL3.out (c := c) (by omega))
          clear hW3 g0 g1 g2 f2 k1 k4 HF
          cases hmc : metB M c with
          | true =>
            rw [hmc] at HMt
            go_wp2_with (with_reducible refine HMt.out.mono ?_; rintro e w' ⟨rfl, rfl⟩)
            refine HG.out _ ds M s W3 ⟨rfl, rfl, rfl, rfl, rfl, rfl⟩ ⟨HL3.out, HI.out.sta.drop (metB_true.1 hmc), fun x hx => HI.out.its x (List.mem_cons_of_mem _ hx), ?_⟩ ?_ (HM1.out.trans (Mks.of_kept K3.out)) (.inl rfl)
            · have := HSL.out; simp only [List.length_cons] at this; omega
            · rw [hL]; simp only [List.length_cons]; omega
          | false =>
            rw [hmc] at HMt
            have hwd : IntKind.i64.wrap ((d : Int) + (lftF E c : Int) - (lftF E c : Int)) = (d : Int) := by rw [IntWalk.i64_in _ (by omega)]; omega
            go_wp2_with (with_reducible refine HMt.out.mono ?_; rintro e w' ⟨rfl, rfl⟩)
            generalize hW4 : W3.alloc (.cells #[.int .i64 (d : Int)] 3) = W4
            have K4 : Hid (Kept (fun _ => False) w1 W4) := by
              show Kept _ w1 W4
              rw [← hW4]; exact K3.out.alloc _
            have HL4 := Lib.hid (HL1.out.still K4.out)
            have HS4 : Hid (W4.heap.size = w1.heap.size + 2) := by
              show W4.heap.size = _
              rw [← hW4]; have := HS3.out; simp; omega
            have u0 : W4.cell? ⟨W3.heap.size, 0, none⟩ = some (.int .i64 (d : Int)) := by
              have hn4 : W4.heap[W3.heap.size]? = some (.cells #[.int .i64 (d : Int)] 3 (0, 0)) := by rw [← hW4]; exact heap_alloc_new W3 _
              rw [blk_cell hn4]; rfl
            have u2 : W4.cell? ⟨w1.heap.size, 2, none⟩ = some (.int .i64 (c : Int)) := by
              rw [← hW4]; exact ((Kept.refl (fun _ => False) W3).alloc _).cell t2 id
            have f2'' := HL4.out.c2
            have k4'' := HL4.out.obj.c4
            have HU0 := Lib.hid u0
            obtain ⟨D4, hD4⟩ := HL4.out.map.kept ((Kept.refl (fun _ => False) W4).drew) id
            have HOW4 : Hid (W4.drew.ownsMap Tryd.prog 3 (plainElem Tryd.prog 3) E.m L D4) := by
              have := hD4.1
              rw [hL] at this
              exact this
            have HD4 := Lib.hid hD4
            have hkey := dkey (h := c) (by omega)
            have hwf : (Lit.int .i64 (d : Int)).wf = true := dwf (by omega)
            clear hW4 hD4 t0 t1 t2 f2' k4' HMt hwd HK2 HL2 HS2
            go_still_tail 7, (by kernel_rfl)
            change wpList _ _ _ _ _ W4.drew
            go_wp2_with (at_mapUpdate; refine wpList_mapUpdate_own _ rfl _ _ _ 67 rfl 3 3 dkeyed Tryd.underlying67 _ E.m L D4 rfl HOW4.out (by unfold maxLen; omega) _ _ _ rfl rfl hkey _ [] (plainElem_int Tryd.underlying3 hwf) ?_; intro w5 ho5 hg5)
            have HL5 : Hid (Lo E w0 (M ++ [(c, d)]) s w5) := Lo.store H (HL4.out.still ((Kept.refl _ W4).drew)) HD4.out (metB_false.1 hmc) hg5 (by rw [hL]; exact ho5)
            have K5 : Hid (Kept (fun k => k = E.m) w1 w5) := ((K4.out.mono (fun _ _ h => h.elim)).drew).trans ((Kept.refl (fun k => k = E.m) W4.drew).grown hg5 (fun k e => .inl (by injection e with e; exact e.symm))) (fun _ _ h => h)
            have K45 : Hid (Kept (fun k => k = E.m) W4 w5) := ((Kept.refl _ W4).drew).trans ((Kept.refl (fun k => k = E.m) W4.drew).grown hg5 (fun k e => .inl (by injection e with e; exact e.symm))) (fun _ _ h => h)
            have M5 : Hid (Mks w1 w5) := (Mks.of_kept K4.out.drew).trans (Mks.map (W := W4.drew) (m := E.m) ⟨D4, HD4.out⟩ hg5)
            have v2 : w5.cell? ⟨w1.heap.size, 2, none⟩ = some (.int .i64 (c : Int)) := K45.out.cell u2 (fun e => by have := HZ1.out; simp at e; omega)
            have fz5 := HL5.out.c2
            have HS5 : Hid (w1.heap.size + 2 ≤ w5.heap.size) := by have := K45.out.size; have := HS4.out; show _ ≤ _; omega
            clear ho5 hg5 u0 u2 f2'' k4'' HOW4 HD4 hkey hwf
            go_step3
            go_wp2_with fail
            refine (bef_mk E.bs c _).mono ?_
            rintro e w6 ⟨rfl, hw6⟩
            have K6 : Hid (Kept (fun _ => False) w5 w6) := by
              show Kept _ w5 w6
              rw [hw6]; exact ((Kept.refl _ w5).alloc _).alloc _
            have HL6 := Lib.hid (HL5.out.still K6.out)
            have x1 : w6.cell? ⟨w5.heap.size, 0, none⟩ = some (.pointer (some ⟨E.bs, 0, none⟩)) := by
              have h := World.alloc_heap_new w5 (.cells #[.pointer (some ⟨E.bs, 0, none⟩)] 63)
              rw [hw6, World.cell?_alloc_some _ _ _ (by rw [blk_cell h]; rfl), blk_cell h]; rfl
            have x2 : w6.cell? ⟨w5.heap.size + 1, 0, none⟩ = some (.int .i64 (c : Int)) := by
              have h := World.alloc_heap_new (w5.alloc (.cells #[.pointer (some ⟨E.bs, 0, none⟩)] 63)) (.cells #[.int .i64 (c : Int)] 3)
              rw [World.size_alloc] at h
              rw [hw6, blk_cell h]; rfl
            have K16 : Hid (Kept (fun k => k = E.m) w1 w6) := K5.out.trans K6.out (fun _ _ h => h.elim)
            have hpb : ∀ k, PB (w0.heap.size + 1) w6 k → k < w1.heap.size := fun k hk => HPB.out k ((pb_still (K16.out.block (w0.heap.size + 1) (by have := HZ1.out; omega) (by omega)) k).1 hk)
            have HX := Lib.hid (And.intro x1 (And.intro x2 hpb))
            have HD6 : Hid (w6.cell? ⟨W3.heap.size, 0, none⟩ = some (.int .i64 (d : Int))) := K6.out.cell (K45.out.cell HU0.out (fun e => by have := HZ1.out; have := HS3.out; simp at e; omega)) id
            clear hw6 x1 x2 hpb v2 fz5
            go_wp2
            have hz1 := HZ1.out
            have hs3 := HS3.out
            have hs5 := HS5.out
            have hsl := HSL.out
            simp only [List.length_cons] at hsl
            refine (wpIn_wide (n := n)).1 (inner_at hn _ (by kernel_rfl) H (s := s) (M := M ++ [(c, d)]) (c := c) (d := d) (p10 := W3.heap.size) (bx := w5.heap.size) (bc := w5.heap.size + 1) (n0 := s.length) _ ds rfl
              ⟨HL6.out, HI.out.sta.meet H.lft HI.out.lo.pile.choose_spec.1.srt (metB_false.1 hmc) HDD.out, fun x hx => HI.out.its x (List.mem_cons_of_mem _ hx), by simp, HD6.out, fun hp => by have := HX.out.2.2 _ hp; omega, fun _ _ h _ => h, Nat.le_refl _⟩
              (by simp) (fun x y hm => ?_) (by omega) HX.out.1 HX.out.2.1 (by omega) (by omega) (by omega) (fun hp => by have := HX.out.2.2 _ hp; omega) ?_)
            · rcases List.mem_append.1 hm with hm | hm
              · have := HI.out.sta.mono x y hm _ (List.mem_cons_self ..)
                simp only [item] at this
                omega
              · have : x = c ∧ y = d := by simpa using hm
                obtain ⟨rfl, rfl⟩ := this
                exact Nat.le_refl _
            · intro D' W' s' hD' hlo hsta hits hlen hnon hsz hmk
              have hsl2 := hsta.len
              simp only [List.length_append, List.length_cons, List.length_nil] at hsl2
              have K45s := K16.out.size
              have hW1 := HM1.out.size
              refine HG.out _ _ (M ++ [(c, d)]) s' W' ⟨rfl, rfl, rfl, rfl, rfl, rfl⟩ ⟨hlo, hsta, hits, ?_⟩ ?_ (((HM1.out.trans M5.out).trans (Mks.of_kept K6.out)).trans ⟨hsz, fun E hE => hnon E _ hE rfl⟩) (.inr ⟨D', by omega, hmk, rfl⟩)
              · simp only [List.length_append, List.length_cons, List.length_nil]; omega
              · simp only [List.length_append, List.length_cons, List.length_nil]; omega
        · have hlk := fun n => map_look (HL2.out.map.kept ((Kept.refl (fun _ => False) W2).drewN n) id) hD0 (by omega)
          have hlk0 := map_look HL2.out.map hD0 (by omega)
          have dd : decide ((D0 : Int) < (d : Int) + (lftF E c : Int)) = false := decide_eq_false (by have := hDD _ hD0; omega)
          have HDD := Lib.hid hDD
          clear hDD hD0
          rw [hm] at HF
          go_quiet ((go_at_call 30; exact Calls.quiet_of (HF.out _)))
          clear hlk hlk0 dd
          generalize hW3 : W2.drewN nq = W3
          have K3 : Hid (Kept (fun _ => False) w1 W3) := by
            show Kept _ w1 W3
            rw [← hW3]; exact HK2.out.trans ((Kept.refl _ W2).drewN nq) (fun _ _ h => h)
          have HL3 := Lib.hid (HL1.out.still K3.out)
          have HS3 : Hid (W3.heap.size = w1.heap.size + 1) := by
            show W3.heap.size = _
            rw [← hW3]; exact HS2.out
          have t0 : W3.cell? ⟨w1.heap.size, 0, none⟩ = some (.int .i64 ((d : Int) + (lftF E c : Int))) := by rw [← hW3]; exact g0
          have t1 : W3.cell? ⟨w1.heap.size, 1, none⟩ = some (.int .i64 ((lftF E c : Nat) : Int)) := by rw [← hW3]; exact g1
          have t2 : W3.cell? ⟨w1.heap.size, 2, none⟩ = some (.int .i64 (c : Int)) := by rw [← hW3]; exact g2
          have f2' := HL3.out.c2
          have k4' := HL3.out.obj.c4
          have HMt := Lib.hid (lo_met HL3.out (c := c) (by omega))
          clear hW3 g0 g1 g2 f2 k1 k4 HF
          cases hmc : metB M c with
          | true =>
            rw [hmc] at HMt
            go_wp2_with (with_reducible refine HMt.out.mono ?_; rintro e w' ⟨rfl, rfl⟩)
            refine HG.out _ ds M s W3 ⟨rfl, rfl, rfl, rfl, rfl, rfl⟩ ⟨HL3.out, HI.out.sta.drop (metB_true.1 hmc), fun x hx => HI.out.its x (List.mem_cons_of_mem _ hx), ?_⟩ ?_ (HM1.out.trans (Mks.of_kept K3.out)) (.inl rfl)
            · have := HSL.out; simp only [List.length_cons] at this; omega
            · rw [hL]; simp only [List.length_cons]; omega
          | false =>
            rw [hmc] at HMt
            have hwd : IntKind.i64.wrap ((d : Int) + (lftF E c : Int) - (lftF E c : Int)) = (d : Int) := by rw [IntWalk.i64_in _ (by omega)]; omega
            go_wp2_with (with_reducible refine HMt.out.mono ?_; rintro e w' ⟨rfl, rfl⟩)
            generalize hW4 : W3.alloc (.cells #[.int .i64 (d : Int)] 3) = W4
            have K4 : Hid (Kept (fun _ => False) w1 W4) := by
              show Kept _ w1 W4
              rw [← hW4]; exact K3.out.alloc _
            have HL4 := Lib.hid (HL1.out.still K4.out)
            have HS4 : Hid (W4.heap.size = w1.heap.size + 2) := by
              show W4.heap.size = _
              rw [← hW4]; have := HS3.out; simp; omega
            have u0 : W4.cell? ⟨W3.heap.size, 0, none⟩ = some (.int .i64 (d : Int)) := by
              have hn4 : W4.heap[W3.heap.size]? = some (.cells #[.int .i64 (d : Int)] 3 (0, 0)) := by rw [← hW4]; exact heap_alloc_new W3 _
              rw [blk_cell hn4]; rfl
            have u2 : W4.cell? ⟨w1.heap.size, 2, none⟩ = some (.int .i64 (c : Int)) := by
              rw [← hW4]; exact ((Kept.refl (fun _ => False) W3).alloc _).cell t2 id
            have f2'' := HL4.out.c2
            have k4'' := HL4.out.obj.c4
            have HU0 := Lib.hid u0
            obtain ⟨D4, hD4⟩ := HL4.out.map.kept ((Kept.refl (fun _ => False) W4).drew) id
            have HOW4 : Hid (W4.drew.ownsMap Tryd.prog 3 (plainElem Tryd.prog 3) E.m L D4) := by
              have := hD4.1
              rw [hL] at this
              exact this
            have HD4 := Lib.hid hD4
            have hkey := dkey (h := c) (by omega)
            have hwf : (Lit.int .i64 (d : Int)).wf = true := dwf (by omega)
            clear hW4 hD4 t0 t1 t2 f2' k4' HMt hwd HK2 HL2 HS2
            go_still_tail 7, (by kernel_rfl)
            change wpList _ _ _ _ _ W4.drew
            go_wp2_with (at_mapUpdate; refine wpList_mapUpdate_own _ rfl _ _ _ 67 rfl 3 3 dkeyed Tryd.underlying67 _ E.m L D4 rfl HOW4.out (by unfold maxLen; omega) _ _ _ rfl rfl hkey _ [] (plainElem_int Tryd.underlying3 hwf) ?_; intro w5 ho5 hg5)
            have HL5 : Hid (Lo E w0 (M ++ [(c, d)]) s w5) := Lo.store H (HL4.out.still ((Kept.refl _ W4).drew)) HD4.out (metB_false.1 hmc) hg5 (by rw [hL]; exact ho5)
            have K5 : Hid (Kept (fun k => k = E.m) w1 w5) := ((K4.out.mono (fun _ _ h => h.elim)).drew).trans ((Kept.refl (fun k => k = E.m) W4.drew).grown hg5 (fun k e => .inl (by injection e with e; exact e.symm))) (fun _ _ h => h)
            have K45 : Hid (Kept (fun k => k = E.m) W4 w5) := ((Kept.refl _ W4).drew).trans ((Kept.refl (fun k => k = E.m) W4.drew).grown hg5 (fun k e => .inl (by injection e with e; exact e.symm))) (fun _ _ h => h)
            have M5 : Hid (Mks w1 w5) := (Mks.of_kept K4.out.drew).trans (Mks.map (W := W4.drew) (m := E.m) ⟨D4, HD4.out⟩ hg5)
            have v2 : w5.cell? ⟨w1.heap.size, 2, none⟩ = some (.int .i64 (c : Int)) := K45.out.cell u2 (fun e => by have := HZ1.out; simp at e; omega)
            have fz5 := HL5.out.c2
            have HS5 : Hid (w1.heap.size + 2 ≤ w5.heap.size) := by have := K45.out.size; have := HS4.out; show _ ≤ _; omega
            clear ho5 hg5 u0 u2 f2'' k4'' HOW4 HD4 hkey hwf
            go_step3
            go_wp2_with fail
            refine (bef_mk E.bs c _).mono ?_
            rintro e w6 ⟨rfl, hw6⟩
            have K6 : Hid (Kept (fun _ => False) w5 w6) := by
              show Kept _ w5 w6
              rw [hw6]; exact ((Kept.refl _ w5).alloc _).alloc _
            have HL6 := Lib.hid (HL5.out.still K6.out)
            have x1 : w6.cell? ⟨w5.heap.size, 0, none⟩ = some (.pointer (some ⟨E.bs, 0, none⟩)) := by
              have h := World.alloc_heap_new w5 (.cells #[.pointer (some ⟨E.bs, 0, none⟩)] 63)
              rw [hw6, World.cell?_alloc_some _ _ _ (by rw [blk_cell h]; rfl), blk_cell h]; rfl
            have x2 : w6.cell? ⟨w5.heap.size + 1, 0, none⟩ = some (.int .i64 (c : Int)) := by
              have h := World.alloc_heap_new (w5.alloc (.cells #[.pointer (some ⟨E.bs, 0, none⟩)] 63)) (.cells #[.int .i64 (c : Int)] 3)
              rw [World.size_alloc] at h
              rw [hw6, blk_cell h]; rfl
            have K16 : Hid (Kept (fun k => k = E.m) w1 w6) := K5.out.trans K6.out (fun _ _ h => h.elim)
            have hpb : ∀ k, PB (w0.heap.size + 1) w6 k → k < w1.heap.size := fun k hk => HPB.out k ((pb_still (K16.out.block (w0.heap.size + 1) (by have := HZ1.out; omega) (by omega)) k).1 hk)
            have HX := Lib.hid (And.intro x1 (And.intro x2 hpb))
            have HD6 : Hid (w6.cell? ⟨W3.heap.size, 0, none⟩ = some (.int .i64 (d : Int))) := K6.out.cell (K45.out.cell HU0.out (fun e => by have := HZ1.out; have := HS3.out; simp at e; omega)) id
            clear hw6 x1 x2 hpb v2 fz5
            go_wp2
            have hz1 := HZ1.out
            have hs3 := HS3.out
            have hs5 := HS5.out
            have hsl := HSL.out
            simp only [List.length_cons] at hsl
            refine (wpIn_wide (n := n)).1 (inner_at hn _ (by kernel_rfl) H (s := s) (M := M ++ [(c, d)]) (c := c) (d := d) (p10 := W3.heap.size) (bx := w5.heap.size) (bc := w5.heap.size + 1) (n0 := s.length) _ ds rfl
              ⟨HL6.out, HI.out.sta.meet H.lft HI.out.lo.pile.choose_spec.1.srt (metB_false.1 hmc) HDD.out, fun x hx => HI.out.its x (List.mem_cons_of_mem _ hx), by simp, HD6.out, fun hp => by have := HX.out.2.2 _ hp; omega, fun _ _ h _ => h, Nat.le_refl _⟩
              (by simp) (fun x y hm => ?_) (by omega) HX.out.1 HX.out.2.1 (by omega) (by omega) (by omega) (fun hp => by have := HX.out.2.2 _ hp; omega) ?_)
            · rcases List.mem_append.1 hm with hm | hm
              · have := HI.out.sta.mono x y hm _ (List.mem_cons_self ..)
                simp only [item] at this
                omega
              · have : x = c ∧ y = d := by simpa using hm
                obtain ⟨rfl, rfl⟩ := this
                exact Nat.le_refl _
            · intro D' W' s' hD' hlo hsta hits hlen hnon hsz hmk
              have hsl2 := hsta.len
              simp only [List.length_append, List.length_cons, List.length_nil] at hsl2
              have K45s := K16.out.size
              have hW1 := HM1.out.size
              refine HG.out _ _ (M ++ [(c, d)]) s' W' ⟨rfl, rfl, rfl, rfl, rfl, rfl⟩ ⟨hlo, hsta, hits, ?_⟩ ?_ (((HM1.out.trans M5.out).trans (Mks.of_kept K6.out)).trans ⟨hsz, fun E hE => hnon E _ hE rfl⟩) (.inr ⟨D', by omega, hmk, rfl⟩)
              · simp only [List.length_append, List.length_cons, List.length_nil]; omega
              · simp only [List.length_append, List.length_cons, List.length_nil]; omega
  · have d1 : decide ((L : Int) ≤ bud) = false := decide_eq_false hb
    gi_wp2_with fail
    exact HO.out (by omega) _ ⟨rfl, rfl, rfl, rfl, rfl, rfl⟩
end Go.Proofs.YtkfijjjnidiejaaDoor
