/-
  look: the range over the cells from which a route may step into one.
-/
import Derived.Test.YtkedjnhidfnlkaaDoorLk2
import Derived.RangeFuncNested
import Derived.Scope
namespace Go.Proofs.YtkedjnhidfnlkaaDoor
set_option maxRecDepth 100000
set_option linter.unusedSimpArgs false
open Go Go.RowKit Rq
attribute [local go_sem] Oper.semAt_some

/-- The search, on E. -/
abbrev StaE (E : Env) (M : List (Nat × Nat)) (s : List Pq.It) (cur : Option Nat) (pre : List Nat) : Prop := Sta E.N (ins E.R E.C E.ms) (mayF E) E.to_ E.fr (lftF E) M s cur pre
/-- No item is too far. -/
def ItsB (E : Env) (s : List Pq.It) : Prop := ∀ x ∈ s, ∃ d c, x = item (lftF E) d c ∧ d ≤ E.N
theorem LoH.bkN {E : Env} {w0 : World} (_ : LoH E w0) : ∀ x b, b ∈ ins E.R E.C E.ms x → b < E.N := fun _ _ h => (ins_mem.1 h).1
theorem LoH.lft {E : Env} {w0 : World} (H : LoH E w0) : Lft (ins E.R E.C E.ms) (lftF E) E.fr := by
  refine ⟨fun x b hb => ?_, ?_⟩
  · obtain ⟨h1, h2, h3⟩ := ins_far H.em.hC H.em.hN hb
    have hN : E.N = E.ms.length := rfl
    have e1 := lft_int (E := E) H.fr (c := b) (by omega)
    have e2 := lft_int (E := E) H.fr (c := x) (by omega)
    have hf := H.fr
    unfold farZ at e1 e2
    rw [if_pos (by omega)] at e1 e2
    simp only [Int.toNat_natCast] at e1 e2
    unfold apartZ at h3 e1 e2
    generalize b / E.C = q1 at *
    generalize b % E.C = q2 at *
    generalize x / E.C = q3 at *
    generalize x % E.C = q4 at *
    generalize E.fr / E.C = q5 at *
    generalize E.fr % E.C = q6 at *
    omega
  · have hN : E.N = E.ms.length := rfl
    have e1 := lft_int (E := E) H.fr (c := E.fr) H.fr
    have hf := H.fr
    unfold farZ at e1
    rw [if_pos (by omega)] at e1
    unfold apartZ at e1
    omega
theorem LoH.dlt {E : Env} {w0 : World} (H : LoH E w0) {d c : Nat} (h : Ds (ins E.R E.C E.ms) (mayF E) E.to_ d c) : d < E.N := h.lt H.to_ H.bkN

theorem ItsB.ins {E : Env} {s : List Pq.It} (h : ItsB E s) {d c : Nat} (hd : d ≤ E.N) : ItsB E (Pq.ins (item (lftF E) d c) s) := by
  intro x hx
  rw [(Pq.ins_perm _ s).mem_iff, List.mem_cons] at hx
  rcases hx with rfl | hx
  · exact ⟨d, c, rfl, hd⟩
  · exact h x hx

/-- What stands between two rounds. -/
structure RnI (E : Env) (w0 w : World) (M : List (Nat × Nat)) (c d p10 n : Nat) (pre : List Nat) (W : World) (s : List Pq.It) : Prop where
  lo : Lo E w0 M s W
  sta : StaE E M s (some c) pre
  its : ItsB E s
  len : s.length ≤ n + pre.length
  cd : W.cell? ⟨p10, 0, none⟩ = some (.int .i64 (d : Int))
  np : ¬ PB (w0.heap.size + 1) W p10
  non : ∀ (k : Nat) (o : Obj), w.heap[k]? = some o → o.isCells = false → W.heap[k]? = some o
  sz : w.heap.size ≤ W.heap.size

def frI (f : Nat → Value) (z p10 bx bc : Nat) : Array Value := #[f 0, f 1, .pointer (some ⟨z, 0, none⟩), f 3, f 4, f 5, f 6, .pointer (some ⟨z + 4, 0, none⟩), f 8, f 9, .pointer (some ⟨p10, 0, none⟩), f 11, f 12, f 13, f 14, f 15, f 16, f 17, f 18, f 19, f 20, f 21, f 22, f 23, f 24, f 25, f 26, f 27, f 28, f 29, f 30, f 31, f 32, f 33, f 34, f 35, f 36, f 37, f 38, f 39, f 40, f 41, f 42, f 43, f 44, f 45, f 46, f 47, f 48, f 49, f 50, f 51, f 52, f 53, f 54, f 55, f 56, f 57, f 58, f 59, f 60, f 61, f 62, f 63, f 64, f 65, f 66, f 67, f 68, f 69, f 70, f 71, f 72, f 73, f 74, f 75, f 76, .func (.func 95) #[] #[.pointer (some ⟨bx, 0, none⟩), .pointer (some ⟨bc, 0, none⟩)], f 78, f 79, f 80, f 81, f 82, f 83, f 84, f 85, f 86]
def frB (f : Nat → Value) (z p10 bx bc x : Nat) : Array Value := #[f 0, f 1, .pointer (some ⟨z, 0, none⟩), f 3, f 4, f 5, f 6, .pointer (some ⟨z + 4, 0, none⟩), f 8, f 9, .pointer (some ⟨p10, 0, none⟩), .int .i64 (x : Int), f 12, f 13, f 14, f 15, f 16, f 17, f 18, f 19, f 20, f 21, f 22, f 23, f 24, f 25, f 26, f 27, f 28, f 29, f 30, f 31, f 32, f 33, f 34, f 35, f 36, f 37, f 38, f 39, f 40, f 41, f 42, f 43, f 44, f 45, f 46, f 47, f 48, f 49, f 50, f 51, f 52, f 53, f 54, f 55, f 56, f 57, f 58, f 59, f 60, f 61, f 62, f 63, f 64, f 65, f 66, f 67, f 68, f 69, f 70, f 71, f 72, f 73, f 74, f 75, f 76, .func (.func 95) #[] #[.pointer (some ⟨bx, 0, none⟩), .pointer (some ⟨bc, 0, none⟩)], .int .i64 (x : Int), f 79, f 80, f 81, f 82, f 83, f 84, f 85, f 86]

/-- What a walk leaves as it is. -/
structure StopL (p : Prop) : Prop where
  out : p

set_option maxHeartbeats 4000000 in
theorem inner_any {n : Nat} (hn : 3 ≤ n) {Q : Exit → Act → World → Prop} (code : Code) (hcode : rfNode ((Tryd.f47).body.getD .skip) = some code)
    {E : Env} {w0 w : World} (H : LoH E w0) {M : List (Nat × Nat)} {s : List Pq.It} {c d p10 bx bc n0 : Nat} (f : Nat → Value) (ds : List Deferred)
    (h0 : RnI E w0 w M c d p10 n0 [] w s) (hcd : (c, d) ∈ M) (hmax : ∀ x y, (x, y) ∈ M → y + lftF E x ≤ d + lftF E c) (hn0 : n0 ≤ 9000)
    (h1 : w.cell? ⟨bx, 0, none⟩ = some (.pointer (some ⟨E.bs, 0, none⟩))) (h2 : w.cell? ⟨bc, 0, none⟩ = some (.int .i64 (c : Int)))
    (l1 : w0.heap.size + 5 ≤ bx) (l2 : w0.heap.size + 5 ≤ bc) (l3 : w0.heap.size + 5 ≤ p10) (n3 : ¬ PB (w0.heap.size + 1) w bx)
    (hdone : ∀ (D : Nat) (W : World) (s' : List Pq.It), w.heap.size ≤ D → Lo E w0 M s' W → StaE E M s' none [] → ItsB E s' → s'.length ≤ n0 + 4 → (∀ (k : Nat) (o : Obj), w.heap[k]? = some o → o.isCells = false → W.heap[k]? = some o) → w.heap.size ≤ W.heap.size →
      W.heap[D]? = some (.deferred (some [])) → Q .normal { tmps := frI f w0.heap.size p10 bx bc, defers := { target := .collected D, args := #[] } :: ds } W) :
    code.wpIn Fence.wide n Tryd.prog Q { tmps := frI f w0.heap.size p10 bx bc, defers := ds } w := by
  simp only [Tryd.f47, Option.getD_some, rfNode, Nat.reduceEqDiff, if_false, if_true, Option.orElse_none, Option.orElse_some, Option.some.injEq, reduceCtorEq] at hcode
  subst hcode
  have hl := H.lts
  have hNn := H.N
  have hN0 : 0 < E.N := by have := H.fr; omega
  have hcN : c < E.N := (h0.sta.mt c d hcd).1
  have hlen := ins_len4 H.em.hC H.em.hN (ms := E.ms) (R := E.R) c
  obtain ⟨r0, p1, p2, p3⟩ := h0.lo.pile
  have hpb : ∀ k, PB (w0.heap.size + 1) w k → k = w0.heap.size + 1 ∨ w0.heap.size + 5 ≤ k := fun k hk => ((p1.pb k).1 hk).imp id (p2 k)
  have hsz := h0.lo.sz
  refine range_state (by omega) (gf := 95) (lb := #[.pointer (some ⟨bx, 0, none⟩), .pointer (some ⟨bc, 0, none⟩)]) rfl (enters_of Tryd.func95 (by kernel_rfl) rfl)
    (encs := fun x : {x : Nat // x ∈ ins E.R E.C E.ms c ∧ mayF E x = true} => #[.int .i64 ((x.1 : Nat) : Int)]) (fun _ => rfl)
    (before_tells (n - 1) (by omega) E bx bc (w0.heap.size + 1) c w h0.lo.obj h0.lo.em hN0 hNn hcN h1 h2 (fun k hk => p1.lt k ((p1.pb k).1 hk)) (by omega) (fun hp => by have := hpb _ hp; omega) (fun hp => by have := hpb _ hp; omega) n3 H.n1 H.n2 (by omega) (by omega) (by omega) (by omega))
    (Below.refl _ _)
    (fun A B ht => ⟨ht.ex.kp.size, fun k o _ ho hc => ht.non k o ho hc⟩) (fun h k => h.trans k)
    (fun W l o o' hl' ho hc => KeepP.putObj W o' ho hc (by omega))
    (fun pre W => ∃ s', RnI E w0 w M c d p10 n0 (pre.map (·.1)) W s') ?hI ?hIT ?hS ⟨s, h0⟩
    (fun x a' _ => a' = { tmps := frB f w0.heap.size p10 bx bc x.1, defers := [] })
    ?hAx ?assign ?body ?done
  case hI =>
    rintro pre A B row ⟨s', h⟩ hg hr
    have hcell : ∀ (p : Addr) (v : Value), A.cell? p = some v → some p.block ≠ row := fun p v hv e => by
      obtain ⟨_, o, ho, hc⟩ := hr _ e.symm
      rw [cells_of_cell hv ho] at hc; cases hc
    refine ⟨s', h.lo.others H hg (fun r e => ⟨by have := (hr r e).1; omega, (hr r e).2⟩), h.sta, h.its, h.len, hg.cell h.cd (fun e => hcell _ _ h.cd e), fun hp => h.np ((pb_still (hg.block _ ?_ ?_) _).1 hp), fun k o hk hc => ?_, Nat.le_trans h.sz hg.size⟩
    · have := h.lo.sz; omega
    · intro e; have := (hr _ e.symm).1; omega
    · exact (hg.block k (blk_lt (h.non k o hk hc)) (fun e => by have := (hr _ e.symm).1; have := blk_lt hk; omega)).trans (h.non k o hk hc)
  case hIT =>
    rintro pre A B ⟨s', h⟩ ht
    refine ⟨s', h.lo.asked H ht.ex, h.sta, h.its, h.len, ht.ex.kp.cell h.cd (fun e => by simp at e; omega), fun hp => h.np ((pb_still (ht.ex.kp.block _ ?_ ?_) _).1 hp), fun k o hk hc => ht.non k o (h.non k o hk hc) hc, Nat.le_trans h.sz ht.ex.kp.size⟩
    · have := h.lo.sz; omega
    · omega
  case hS =>
    intro xs A B row hs _ _
    exact hs
  case hAx =>
    intro x a' _ A B row h _ _
    exact h
  case assign =>
    intro l pre x W K hI hK
    unfold frI
    gi_wp2
    exact hK _ _ (KeepsFrom.refl _ _) (KeepP.refl _ _) hI rfl
  case body =>
    rintro l pre ⟨x, hxm, hxy⟩ a' W hl' ⟨s', h⟩ rfl hlt
    have hxN : x < E.N := (ins_mem.1 hxm).1
    have hdl := H.dlt (h.sta.mt c d hcd).2
    have f2 := h.lo.c2
    have f7 := h.lo.c7
    have fd := h.cd
    have HMt := Lib.hid (lo_met h.lo (c := x) (by omega))
    have hmp : (pre ++ [(⟨x, hxm, hxy⟩ : {x : Nat // x ∈ ins E.R E.C E.ms c ∧ mayF E x = true})]).map (·.1) = pre.map (·.1) ++ [x] := by simp
    have hpl : (pre.map (·.1)).length = pre.length := by simp
    have hpl2 := h.len
    cases hm : metB M x with
    | true =>
      have HR : Hid (∃ s', RnI E w0 w M c d p10 n0 ((pre ++ [(⟨x, hxm, hxy⟩ : {x : Nat // x ∈ ins E.R E.C E.ms c ∧ mayF E x = true})]).map (·.1)) W s') := by
        show ∃ s', _
        rw [hmp]
        exact ⟨s', h.lo, h.sta.pass (metB_true.1 hm), h.its, by simp; omega, h.cd, h.np, h.non, h.sz⟩
      rw [hm] at HMt
      clear h hdone h0 hmax
      unfold frB
      gi_wp2_with fail
      refine ⟨trivial, fun h => (by cases h), CallsIn.inRound l (callsIn_wide.2 (HMt.out.mono ?_))⟩
      rintro e w' ⟨rfl, rfl⟩
      gi_wp2
      exact ⟨KeepsFrom.refl _ _, KeepP.refl _ _, HR.out⟩
    | false =>
      have hmx := hmax c d hcd
      have hdN : d + 1 ≤ E.N := by omega
      have hw : IntKind.i64.wrap ((d : Int) + 1) = ((d + 1 : Nat) : Int) := by rw [IntWalk.i64_in _ (by omega)]; omega
      have HP : Hid (Calls Tryd.prog 71 #[.int .i64 (x : Int), .int .i64 ((d + 1 : Nat) : Int), .pointer (some ⟨w0.heap.size + 1, 0, none⟩), .pointer (some ⟨w0.heap.size + 3, 0, none⟩)] W fun e W' => e = .returned (.tuple #[]) ∧ LoP E w0 M (Pq.ins (item (lftF E) (d + 1) x) s') W W') := lo_push H h.lo hxN (by omega) (by omega)
      have HR : Hid (∀ W', LoP E w0 M (Pq.ins (item (lftF E) (d + 1) x) s') W W' → roundEnd w.heap.size (KeepP (w0.heap.size + 1)) (fun (pre : List {x : Nat // x ∈ ins E.R E.C E.ms c ∧ mayF E x = true}) W => ∃ s', RnI E w0 w M c d p10 n0 (pre.map (·.1)) W s') (pre ++ [(⟨x, hxm, hxy⟩ : {x : Nat // x ∈ ins E.R E.C E.ms c ∧ mayF E x = true})]) W .normal { tmps := #[], defers := [] } W') := by
        intro W' hp
        refine ⟨⟨hp.kp.size, fun k o _ hk hc => hp.non k o hk hc⟩, hp.kp, ?_⟩
        show ∃ s', _
        rw [hmp]
        refine ⟨_, hp.lo, h.sta.push H.lft hcd hxm hxN hxy hmax, h.its.ins hdN, ?_, hp.kp.cell h.cd h.np, hp.kp.still (World.block_lt_of_cell? W ⟨p10, 0, none⟩ h.cd) h.np, fun k o hk hc => hp.non k o (h.non k o hk hc) hc, Nat.le_trans h.sz hp.kp.size⟩
        rw [(Pq.ins_perm _ s').length_eq]
        simp
        omega
      rw [hm] at HMt
      clear h hdone h0 hmax
      unfold frB
      gi_wp2_with fail
      refine ⟨trivial, fun h => (by cases h), CallsIn.inRound l (callsIn_wide.2 (HMt.out.mono ?_))⟩
      rintro e w' ⟨rfl, rfl⟩
      gi_wp2_with fail
      refine ⟨trivial, fun h => (by cases h), CallsIn.inRound l (callsIn_wide.2 (HP.out.mono ?_))⟩
      rintro e w' ⟨rfl, hp⟩
      have HR2 := Lib.hid (HR.out w' hp)
      clear hp HR
      gi_wp2
      exact HR2.out
  case done =>
    rintro D xs W hD hxs ⟨s', h⟩ hK
    refine hdone D W s' hD h.lo (h.sta.fin (fun b hb hm => ?_)) h.its ?_ h.non h.sz hK
    · rw [hxs]
      unfold befL
      exact List.mem_filter.2 ⟨hb, hm⟩
    · have h3 := h.len
      have h4 : (xs.map (·.1)).length ≤ 4 := by
        rw [hxs]
        exact Nat.le_trans (List.length_filter_le _ _) hlen
      omega
end Go.Proofs.YtkedjnhidfnlkaaDoor
