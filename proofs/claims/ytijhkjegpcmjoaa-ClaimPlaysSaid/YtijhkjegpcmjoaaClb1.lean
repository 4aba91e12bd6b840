/-
  ClaimBack: what is known while calls are made.
-/
import Derived.Test.YtijhkjegpcmjoaaClb0
import Derived.Maps.Views
import Derived.Maps.Own
import Derived.Maps.AppendAt
import Derived.Carry
namespace Go.Proofs.Ytijhkjegpcmjoaa
set_option maxRecDepth 100000
set_option linter.unusedSimpArgs false
open Go Go.RowKit Cl
open Go.Maps (Keyed IsMap)

theorem intKeyed : Keyed Try.prog 3 := Maps.int_keyed Try.underlying3
theorem intZero (w : World) : (zeroValue 3).run Try.prog w = .ok (.int .i64 0) w := by kernel_rfl
theorem i64_wf {n : Int} (h : -9223372036854775808 ≤ n) (h' : n ≤ 9223372036854775807) : (Lit.int .i64 n).wf = true := by
  have h1 : IntKind.i64.min = -9223372036854775808 := rfl
  have h2 : IntKind.i64.max = 9223372036854775807 := rfl
  simp only [Lit.wf, Bool.and_eq_true, decide_eq_true_eq, h1, h2]
  omega
/-- How often each number was met. -/
def Mny (w : World) (m N : Nat) (g : Int → Int) : Prop :=
  ∃ D : DataW Unit, w.ownsMap Try.prog 3 (plainElem Try.prog 3) m N D ∧ IsMap D ∧ ∀ k : Int, D.atKey (.int .i64 k) (.lit (.int .i64 0)) = .lit (.int .i64 (g k))
theorem Mny.made (w : World) : Mny (w.alloc (.map #[] 0)) w.heap.size 0 (fun _ => 0) := ⟨.map [], World.ownsMap_made w _ _ _, Maps.isMap_empty, fun _ => rfl⟩
theorem Mny.lt {w : World} {m N : Nat} {g : Int → Int} (h : Mny w m N g) : m < w.heap.size := by
  obtain ⟨D, ho, _⟩ := h
  exact ho.lt
theorem Mny.kept {w w' : World} {m N : Nat} {g : Int → Int} {X : Nat → Prop} (h : Mny w m N g) (hk : Kept X w w') (hm : ¬ X m) : Mny w' m N g := by
  obtain ⟨D, ho, h1, h2⟩ := h
  have hlt := ho.lt
  obtain ⟨es, clock, hb, F, hs, hD⟩ := ho
  exact ⟨D, ⟨es, clock, (hk.block m hlt hm).trans hb, F, hs, hD⟩, h1, h2⟩
theorem Mny.look {w : World} {m N : Nat} {g : Int → Int} (h : Mny w m N g) {k : Int} (hk : -9223372036854775808 ≤ k) (hk' : k ≤ 9223372036854775807) :
    (Instr.lookup 60 (.map (some m)) (.int .i64 k) false).run Try.prog w = .ok (.int .i64 (g k)) w := by
  obtain ⟨D, ho, h1, h2⟩ := h
  obtain ⟨c, hr, hv, _⟩ := ho.lookup_int intKeyed Try.underlying60 Try.underlying3 (intZero w) (Maps.keyOf_int_mk Try.underlying3 (i64_wf hk hk'))
  rw [h2] at hv
  simp only [DataW.lit.injEq, Lit.int.injEq, true_and] at hv
  rw [hr, hv]
theorem Mny.put {w : World} {m N : Nat} {g : Int → Int} (h : Mny w m N g) (hN : N < 10000) {k v : Int} (hk : -9223372036854775808 ≤ k) (hk' : k ≤ 9223372036854775807) (hv : (Lit.int .i64 v).wf = true) :
    ∃ w', (Instr.mapUpdate 60 (.map (some m)) (.int .i64 k) (.int .i64 v)).run Try.prog w = .ok () w' ∧ Mny w' m (N + 1) (fun x => if x = k then v else g x) ∧ Kept (fun i => i = m) w w' := by
  obtain ⟨D, ho, h1, h2⟩ := h
  obtain ⟨w', hr, ho', hg⟩ := ho.update intKeyed Try.underlying60 (by unfold maxLen; omega) (Maps.keyOf_int_mk Try.underlying3 (i64_wf hk hk')) (plainElem_int Try.underlying3 (a := v) hv)
  refine ⟨w', hr, ⟨_, ho', h1.put _ _, fun k' => ?_⟩, ⟨hg.os, hg.tape, hg.output, hg.size, fun i hi hn => hg.block i hi (fun e => hn (by simpa using e))⟩⟩
  by_cases e : k' = k
  · subst e
    rw [Maps.atKey_put_same h1 (k := .int .i64 k') trivial]
    simp
  · rw [Maps.atKey_put_other (by intro e2; injection e2 with _ e2; exact e (by omega)), h2]
    simp [e]

section
variable {P : Program} {ops : Array Oper} {o : Oper} {a : Act} {w w' : World} {v' sv xv : Value}
/-- An append whose run is known. -/
theorem wp_run {K : Act → World → Prop} {Q : Exit → Act → World → Prop} (s x : Operand) (t : TypeId) (ho : o.op = .call { callee := .builtin .append, args := #[s, x], argTypes := #[t, t] })
    (hs : a.eval s = sv) (hx : a.eval x = xv) (hr : (Builtin.append_ #[t, t] o.type #[sv, xv]).run P w = .ok v' w') (h : K (a.put o.dst v') w') : o.wp P a w K Q := by
  unfold Oper.wp execOp
  simp only [ho, resolve, invoke, builtin, Sem.run_bind, Sem.run_pure, Result.andThen_ok, List.map_toArray, List.map_cons, List.map_nil, hs, hx, hr]
  exact h
theorem step_run {K : Act → World → Prop} {Q : Exit → Act → World → Prop} {E : Prop} (hgd : o.guard = none) (s x : Operand) (t : TypeId) (ho : o.op = .call { callee := .builtin .append, args := #[s, x], argTypes := #[t, t] })
    (hs : a.eval s = sv) (hx : a.eval x = xv) (hr : (Builtin.append_ #[t, t] o.type #[sv, xv]).run P w = .ok v' w') (h : K (a.put o.dst v') w') : if Region.wanted o (yielded ops a.tmps) = true then Oper.wp P o a w K Q else E := by
  have hw : Region.wanted o (yielded ops a.tmps) = true := by simp [Region.wanted, hgd]
  rw [if_pos hw]
  exact wp_run s x t ho hs hx hr h
theorem wpList_run {rest : List Oper} {Q : Exit → Act → World → Prop} (hgd : o.guard = none) (s x : Operand) (t : TypeId) (ho : o.op = .call { callee := .builtin .append, args := #[s, x], argTypes := #[t, t] })
    (hs : a.eval s = sv) (hx : a.eval x = xv) (hr : (Builtin.append_ #[t, t] o.type #[sv, xv]).run P w = .ok v' w') (h : wpList P ops Q rest (a.put o.dst v') w') : wpList P ops Q (o :: rest) a w :=
  wpList_plain hgd fun _ hK => wp_run s x t ho hs hx hr (hK _ _ h)
end

theorem Mny.blk {w : World} {m N : Nat} {g : Int → Int} (h : Mny w m N g) : ∃ es n, w.heap[m]? = some (.map es n) := by
  obtain ⟨D, ho, _⟩ := h
  obtain ⟨es, clock, hb, _⟩ := ho
  exact ⟨es, clock, hb⟩
theorem row_blk {w : World} {F size n : Nat} {e : TypeId} {v : Value} {xs : List Value} (h : w.ownsRow F e size v n xs) {g : Nat} (hg : v.ownBlock = some g) : F ≤ g ∧ ∃ cur f, w.heap[g]? = some (.cells cur e f) := by
  rcases h.2 with ⟨rfl, _⟩ | ⟨g', cap, cur, rfl, hb, hgg, _⟩
  · cases hg
  · have : g' = g := by simpa [Value.ownBlock] using hg
    subst this
    exact ⟨hb, _, _, hgg⟩
theorem Try.infoInt3 : (Try.prog.info? 3).map (fun i => (i.zero, i.size, i.bytes)) = some (some (.int .i64 0), 1, 8) := by kernel_rfl
def iv (c : Int) : Value := .int .i64 c
/-- What is known while calls are made: the claims, how often each cell was met, the cells that were met, each once. -/
structure BkI (w : World) (F b m j : Nat) (C : List Int) (s : List Cm) (v : Value) (V : World) : Prop where
  cl : CAt V b s
  mny : ∃ N g, N ≤ j ∧ Mny V m N g ∧ ∀ c, 0 ≤ g c ∧ g c ≤ (j : Int) ∧ (1 ≤ g c ↔ c ∈ C)
  row : V.ownsRow F 3 1 v C.length (C.map iv)
  bd : w.heap.size ≤ b ∧ w.heap.size ≤ m ∧ w.heap.size ≤ F ∧ b ≠ m ∧ F ≤ V.heap.size
  bl : Below w.heap.size w V
  nod : C.Nodup
  rng : ∀ c ∈ C, 0 ≤ c ∧ c < 1024
  sub : ∀ x ∈ s, x.c ∈ C
  len : C.length ≤ j
section
variable {w V V' : World} {F b m j : Nat} {C : List Int} {s : List Cm} {v : Value}
theorem BkI.skip (h : BkI w F b m j C s v V) : BkI w F b m (j + 1) C s v V := by
  obtain ⟨h1, ⟨N, g, h2, h3, h4⟩, h5, h6, h7, h8, h9, h10, h11⟩ := h
  exact ⟨h1, ⟨N, g, by omega, h3, fun c => ⟨(h4 c).1, by have := (h4 c).2.1; push_cast; omega, (h4 c).2.2⟩⟩, h5, h6, h7, h8, h9, h10, by omega⟩
/-- The claims turn. -/
theorem BkI.turn (h : BkI w F b m j C s v V) {s' : List Cm} (hc : CAt V' b s') (hk : Kept (fun k => k = b) V V') (hs : ∀ x ∈ s', x.c ∈ C) : BkI w F b m j C s' v V' := by
  obtain ⟨h1, ⟨N, g, h2, h3, h4⟩, h5, h6, h7, h8, h9, h10, h11⟩ := h
  refine ⟨hc, ⟨N, g, h2, h3.kept hk (fun e => h6.2.2.2.1 e.symm), h4⟩, hk.row h5 (fun k hk2 e => ?_), ⟨h6.1, h6.2.1, h6.2.2.1, h6.2.2.2.1, by have := hk.size; omega⟩, h7.trans (hk.below (fun k e => by omega) h7.size), h8, h9, hs, h11⟩
  obtain ⟨_, cur, f, hg⟩ := row_blk h5 hk2
  subst e
  rw [h1.2.2] at hg
  injection hg with hg
  injection hg with _ hg _
  exact absurd hg (by decide)
theorem BkI.drew (h : BkI w F b m j C s v V) : BkI w F b m j C s v V.drew := ⟨h.cl, h.mny, h.row, h.bd, h.bl.drew, h.nod, h.rng, h.sub, h.len⟩
/-- A cell is met. -/
theorem BkI.met (h : BkI w F b m j C s v V) (hj : j ≤ 100) {c : Int} (hc : 0 ≤ c ∧ c < 1024) :
    ∃ (k : Int) (W : World), 0 ≤ k ∧ k ≤ 100 ∧ (Instr.lookup 60 (.map (some m)) (.int .i64 c) false).run Try.prog V = .ok (.int .i64 k) V ∧
      (Instr.mapUpdate 60 (.map (some m)) (.int .i64 c) (.int .i64 (k + 1))).run Try.prog V = .ok () W ∧
      (Instr.lookup 60 (.map (some m)) (.int .i64 c) false).run Try.prog W = .ok (.int .i64 (k + 1)) W ∧ Below w.heap.size w W ∧
      (k ≠ 0 → c ∈ C ∧ BkI w F b m (j + 1) C s v W) ∧
      (k = 0 → ∃ v' W3, (Builtin.append_ #[61, 61] 61 #[v, .slice (some ⟨W.heap.size, 0, none⟩) 1 1]).run Try.prog (W.alloc (.cells #[.int .i64 c] 3)) = .ok v' W3 ∧ BkI w F b m (j + 1) (C ++ [c]) s v' W3) := by
  obtain ⟨h1, ⟨N, g, h2, h3, h4⟩, h5, h6, h7, h8, h9, h10, h11⟩ := h
  obtain ⟨q1, q2, q3⟩ := h4 c
  have l1 := h3.look (k := c) (by omega) (by omega)
  obtain ⟨W, hr, hm', hk⟩ := h3.put (by omega) (k := c) (v := g c + 1) (by omega) (by omega) (i64_wf (by omega) (by omega))
  have l2 := hm'.look (k := c) (by omega) (by omega)
  simp only [if_true] at l2
  have hb : Below w.heap.size w W := h7.trans (hk.below (fun k e => by omega) h7.size)
  have c2 : CAt W b s := h1.kept hk h6.2.2.2.1
  have r2 : W.ownsRow F 3 1 v C.length (C.map iv) := hk.row h5 (fun k hk2 e => by
    obtain ⟨_, cur, f, hg⟩ := row_blk h5 hk2
    obtain ⟨es, n, hm⟩ := h3.blk
    subst e
    rw [hm] at hg
    cases hg)
  have hFW : F ≤ W.heap.size := by have := hk.size; omega
  refine ⟨g c, W, q1, by omega, l1, hr, l2, hb, fun h0 => ?_, fun h0 => ?_⟩
  · have hcC := q3.1 (by omega)
    refine ⟨hcC, c2, ⟨N + 1, _, by omega, hm', fun x => ?_⟩, r2, ⟨h6.1, h6.2.1, h6.2.2.1, h6.2.2.2.1, hFW⟩, hb, h8, h9, h10, by omega⟩
    obtain ⟨p1, p2, p3⟩ := h4 x
    by_cases e : x = c
    · rw [if_pos e, e]
      exact ⟨by omega, by push_cast; omega, ⟨fun _ => hcC, fun _ => by omega⟩⟩
    · rw [if_neg e]
      exact ⟨p1, by push_cast; omega, p3⟩
  · have hcC : c ∉ C := fun hx => by have := q3.2 hx; omega
    obtain ⟨i0, hi, hz0, hz1, hz2⟩ := info_parts Try.infoInt3
    obtain ⟨v', W3, hrun, ho, hg, _, hat⟩ := run_append_own_at (P := Try.prog) (W.alloc (.cells #[.int .i64 c] 3)) F 61 61 3 i0 (.int .i64 0) 1 8 Try.underlying61 hi hz0 hz1 hz2 rfl (by decide) v C.length (C.map iv) (r2.alloc _) ⟨W.heap.size, 0, none⟩ 1 1 [.int .i64 c] rfl (World.news_of_block (cs := #[.int .i64 c]) (World.alloc_heap_new W _)) (by intro u hu; simp at hu; rcases hu with rfl; rfl) (by unfold maxLen; omega) (by omega) (by simp; omega)
    have hKa : Kept (fun _ => False) W (W.alloc (.cells #[.int .i64 c] 3)) := (Kept.refl _ W).alloc _
    have hKg : Kept (fun k => v.ownBlock = some k) W W3 := (hKa.mono (fun _ _ h => h.elim)).grown hg (fun k e => .inl e)
    have hvb : ∀ k, v.ownBlock = some k → ∃ cur f, W.heap[k]? = some (.cells cur 3 f) := fun k hk2 => (row_blk r2 hk2).2
    refine ⟨v', W3, hrun, c2.kept hKg (fun e => ?_), ⟨N + 1, _, by omega, hm'.kept hKg (fun e => ?_), fun x => ?_⟩, ?_, ⟨h6.1, h6.2.1, h6.2.2.1, h6.2.2.2.1, by have := hKg.size; omega⟩, hb.trans (hKg.below (fun k e => by have := (row_blk r2 e).1; omega) hb.size), ?_, ?_, fun x hx => List.mem_append.2 (.inl (h10 x hx)), by simp; omega⟩
    · obtain ⟨cur, f, hg2⟩ := hvb b e
      rw [c2.2.2] at hg2
      injection hg2 with hg2
      injection hg2 with _ hg2 _
      exact absurd hg2 (by decide)
    · obtain ⟨cur, f, hg2⟩ := hvb m e
      obtain ⟨es, n, hm2⟩ := hm'.blk
      rw [hm2] at hg2
      cases hg2
    · obtain ⟨p1, p2, p3⟩ := h4 x
      by_cases e : x = c
      · rw [if_pos e, e]
        exact ⟨by omega, by push_cast; omega, ⟨fun _ => by simp, fun _ => by omega⟩⟩
      · rw [if_neg e]
        refine ⟨p1, by push_cast; omega, ?_⟩
        rw [p3, List.mem_append, List.mem_singleton]
        constructor
        · exact .inl
        · rintro (h | h)
          · exact h
          · exact absurd h e
    · rw [List.length_append, List.length_singleton, List.map_append]
      exact ho
    · rw [List.nodup_append]
      exact ⟨h8, List.nodup_cons.2 ⟨by simp, List.nodup_nil⟩, fun a ha b' hb' => by rw [List.mem_singleton] at hb'; rintro rfl; exact hcC (hb' ▸ ha)⟩
    · intro x hx
      rcases List.mem_append.1 hx with hx | hx
      · exact h9 x hx
      · rw [List.mem_singleton] at hx; subst hx; exact hc
end
end Go.Proofs.Ytijhkjegpcmjoaa
