/-
  Status: what a robot doesn't claim is freed.
-/
import Derived.Test.YtlmbbnkdiokabaaDoorLgE
namespace Go.Proofs.YtlmbbnkdiokabaaDoor
set_option maxRecDepth 100000
set_option linter.unusedSimpArgs false
open Go Go.RowKit Sp Lg
attribute [local go_sem] Oper.semAt_some

namespace Lg
/-- Generations are n at most. -/
def GB (s : S) (n : Int) : Prop := ∀ c, (s.E c).g ≤ n
/-- Who holds nothing has nobody that waits. -/
def Fr (s : S) : Prop := ∀ c, (s.E c).r = -1 → s.Q c = []
def staOk (s : S) (r : Int) (cl : List (Int × Int)) (c : Int) : Bool := decide ((s.E c).r = r) && !decide ((c, (s.E c).g) ∈ cl)
def staStep (r : Int) (cl : List (Int × Int)) (x : S × Dn) (c : Int) : S × Dn := if staOk x.1 r cl c then (freS x.1 c, freO x.1 c x.2) else x
/-- The first k cells of a home. -/
def staK (s : S) (r : Int) (cl : List (Int × Int)) (k : Nat) : S × Dn := (List.range k).foldl (fun x (i : Nat) => staStep r cl x (s.h + i * s.R)) (s, Dn.none)
theorem staK_succ (s : S) (r : Int) (cl : List (Int × Int)) (k : Nat) : staK s r cl (k + 1) = staStep r cl (staK s r cl k) (s.h + k * s.R) := by
  unfold staK
  rw [List.range_succ, List.foldl_append]; rfl
theorem full_of {s : S} {n : Int} (h : GB s n) (hn : n < 4294967295) (c : Int) : full s c = false := by
  unfold full
  have := h c
  simp; omega
theorem grS_gb {s : S} {n : Int} (h : GB s n) (c : Int) (y : Wt) : GB (grS s c y) (n + 1) := by
  intro d
  unfold grS
  split
  · have := h d; omega
  · show (if d = c then (⟨y.r, (s.E c).g + 1⟩ : En) else s.E d).g ≤ n + 1
    split
    · have := h c; show (s.E c).g + 1 ≤ n + 1; omega
    · have := h d; omega
theorem fr1_gb {s : S} {n : Int} (h : GB s n) (c : Int) : GB (fr1 s c) n := by
  intro d
  show (if d = c then (⟨-1, (s.E c).g⟩ : En) else s.E d).g ≤ n
  split
  · exact h c
  · exact h d
theorem freS_gb {s : S} {n : Int} (h : GB s n) (c : Int) : GB (freS s c) (n + 1) := by
  unfold freS
  split
  · intro d; have := fr1_gb h c d; omega
  · refine grS_gb (fun d => ?_) c _
    exact fr1_gb h c d
theorem freO_le {s : S} {q : Dn} {n : Nat} (h : q.le n) (c : Int) : (freO s c q).le (n + 3) := by
  unfold freO fr1o
  split
  · exact (h.write _ _).mono (by omega)
  · unfold grO
    split
    · exact ((h.write _ _).post _).mono (by omega)
    · exact ((h.write _ _).write _ _).post _
theorem grS_hrc (s : S) (c : Int) (y : Wt) : (grS s c y).h = s.h ∧ (grS s c y).R = s.R ∧ (grS s c y).C = s.C ∧ (grS s c y).T = s.T := by
  unfold grS; split <;> exact ⟨rfl, rfl, rfl, rfl⟩
theorem freS_hrc (s : S) (c : Int) : (freS s c).h = s.h ∧ (freS s c).R = s.R ∧ (freS s c).C = s.C ∧ (freS s c).T = s.T := by
  unfold freS
  split
  · exact ⟨rfl, rfl, rfl, rfl⟩
  · exact grS_hrc _ _ _
theorem freS_fr {s : S} (hok : Ok s) (h : Fr s) (c : Int) (hf : full s c = false) : Fr (freS s c) := by
  intro d
  unfold freS
  split
  · rename_i hQ
    show (if d = c then (⟨-1, (s.E c).g⟩ : En) else s.E d).r = -1 → s.Q d = []
    by_cases e : d = c
    · intro _; rw [e]; exact hQ
    · rw [if_neg e]; exact h d
  · rename_i y l hQ
    have hf2 : full ((fr1 s c).setQ c l) c = false := by
      unfold full fr1 S.turn S.setQ at *
      simpa using hf
    unfold grS
    rw [hf2]
    show (if d = c then (⟨y.r, _⟩ : En) else if d = c then _ else s.E d).r = -1 → (if d = c then l else s.Q d) = []
    by_cases e : d = c
    · rw [if_pos e, if_pos e]
      intro e2
      exact absurd e2 (S.has_ne (hok.qr c y (by rw [hQ]; exact List.mem_cons_self)).1)
    · rw [if_neg e, if_neg e, if_neg e]; exact h d
theorem staK_inv {s : S} {n : Int} (h : GB s n) (r : Int) (cl : List (Int × Int)) : ∀ k : Nat, k ≤ 1024 → ((staK s r cl k).1.h = s.h ∧ (staK s r cl k).1.R = s.R ∧ (staK s r cl k).1.C = s.C ∧ (staK s r cl k).1.T = s.T) ∧ GB (staK s r cl k).1 (n + k) ∧ (staK s r cl k).2.le (3 * k) := by
  intro k
  induction k with
  | zero => intro _; exact ⟨⟨rfl, rfl, rfl, rfl⟩, (by show GB s (n + 0); simpa using h), Nat.le_refl _, Nat.le_refl _, Nat.le_refl _⟩
  | succ k ih =>
    intro hk
    obtain ⟨⟨e1, e2, e3, e4⟩, g1, l1⟩ := ih (by omega)
    rw [staK_succ]
    unfold staStep
    split
    · obtain ⟨f1, f2, f3, f4⟩ := freS_hrc (staK s r cl k).1 (s.h + k * s.R)
      refine ⟨⟨f1.trans e1, f2.trans e2, f3.trans e3, f4.trans e4⟩, ?_, (freO_le l1 _).mono (by omega)⟩
      have := freS_gb g1 (s.h + k * s.R)
      intro d
      have := this d
      push_cast
      omega
    · exact ⟨⟨e1, e2, e3, e4⟩, fun d => by have := g1 d; push_cast; omega, l1.mono (by omega)⟩
theorem own_is {s : S} (h : Ok s) {k : Nat} (hk : s.h + k * s.R < s.C) : s.is (s.h + k * s.R) = true := by
  have h1 := h.h0
  have h2 := h.hR
  have h3 : 0 ≤ (k : Int) * s.R := Int.mul_nonneg (by omega) (by omega)
  unfold S.is
  simp only [Bool.and_eq_true, decide_eq_true_eq]
  refine ⟨⟨by omega, hk⟩, ?_⟩
  rw [Int.add_mul_emod_self_right]
  exact Int.emod_eq_of_lt h1 h2
/-- What a status leaves. -/
def staS (s : S) (r : Int) (cl : List (Int × Int)) : S := (staK (s.leave r) r cl 1024).1.setT r true
end Lg
theorem own_base {w : World} {B B' : Nat} {e : TypeId} {n m : Nat} {u : Value} {xs : List Value} (h : w.ownsRow B e n u m xs) (hB : B' ≤ B) : w.ownsRow B' e n u m xs := by
  obtain ⟨h1, h2⟩ := h
  refine ⟨h1, ?_⟩
  rcases h2 with h2 | ⟨g, cap, cur, h3, h4, h5⟩
  · exact .inl h2
  · exact .inr ⟨g, cap, cur, h3, by omega, h5⟩
theorem OutQ.base {w : World} {B B' : Nat} {v : OV} {q : Dn} (h : OutQ w B v q) (hB : B' ≤ B) : OutQ w B' v q := by
  obtain ⟨ws, h1, h2, h3, h4, h5⟩ := h
  exact ⟨ws, h1, own_base h2 hB, own_base h3 hB, own_base h4 hB, h5⟩
theorem put_kept (W : World) (D : Nat) (o : Obj) : Kept (fun k => k = D) W (W.putObj D o) := (Kept.refl _ W).grown (grownBy_putObj' W D o) (fun k e => by cases e; exact .inl rfl)
theorem LedAt.put_def {W : World} {b me mq N D : Nat} {P : Int → Option Nat} {s : S} (h : LedAt W b me mq P N s) {x : Option (List Deferred)} (hd : W.heap[D]? = some (.deferred x)) (o : Obj) : LedAt (W.putObj D o) b me mq P N s := by
  refine h.kept (put_kept W D o) (fun k hk e => ?_) (fun e => ?_)
  · subst e
    rcases hk with rfl | rfl | rfl | ⟨c, e⟩
    · rw [h.blk] at hd; cases hd
    · obtain ⟨es, cl, e⟩ := h.ents.isMap; rw [e] at hd; cases hd
    · obtain ⟨es, cl, e⟩ := h.ques.isMap; rw [e] at hd; cases hd
    · rw [(h.some_ c k e).2.2] at hd; cases hd
  · have h8 := h.af.1
    unfold World.cell? at h8
    rw [e] at h8
    simp [hd] at h8
theorem OutQ.put_def {W : World} {B D : Nat} {v : OV} {q : Dn} (h : OutQ W B v q) {x : Option (List Deferred)} (hd : W.heap[D]? = some (.deferred x)) (o : Obj) : OutQ (W.putObj D o) B v q := by
  obtain ⟨ws, h1, h2, h3, h4, h5⟩ := h
  have hk := put_kept W D o
  have nt : ∀ {t : TypeId}, ¬ Typ W D t := by
    rintro t ⟨cur, f, e⟩
    rw [hd] at e; cases e
  refine ⟨ws, h1, hk.row h2 (fun g hg e => nt (by rw [← e]; exact (own_typ h2 hg).1)), hk.row h3 (fun g hg e => nt (by rw [← e]; exact (own_typ h3 hg).1)), hk.row h4 (fun g hg e => nt (by rw [← e]; exact (own_typ h4 hg).1)), fun y hy => (h5 y hy).kept hk (fun k hk e => nt (by rw [← e]; exact hk))⟩
theorem fin_out2 {W4 W5 : World} {b me mq N2 o k B : Nat} {P : Int → Option Nat} {s' : S} {q' : Dn} (h4 : W4.heap[k]? = some (.cells #[nilV, nilV, nilV] 48 (0, 0))) (hk : ¬ LX b me mq P k) (hok : k ≠ o) (hkg : 0 ≠ k)
    (hst : StepLO W4 W5 b me mq P N2 s' B o v0 q') :
    ∃ v : OV, (∃ A1 n1 c1 A2 n2 c2 A3 n3 c3, v = ⟨.slice A1 n1 c1, .slice A2 n2 c2, .slice A3 n3 c3⟩) ∧ (W5.cell? ⟨o, 0, none⟩ = some v.w ∧ W5.cell? ⟨o, 1, none⟩ = some v.p ∧ W5.cell? ⟨o, 2, none⟩ = some v.b) ∧ W5.heap[k]? = some (.cells #[nilV, nilV, nilV] 48 (0, 0)) ∧
      OutQ (((W5.setCell ⟨k, 0, none⟩ v.w).setCell ⟨k, 1, none⟩ v.p).setCell ⟨k, 2, none⟩ v.b) B v q' ∧
      ∃ P' N', LedAt (((W5.setCell ⟨k, 0, none⟩ v.w).setCell ⟨k, 1, none⟩ v.p).setCell ⟨k, 2, none⟩ v.b) b me mq P' N' s' ∧ N' ≤ N2 ∧ (∀ c k, P' c = some k → P c = some k ∨ W4.heap.size ≤ k) ∧ Kept (fun i => (LX b me mq P i ∨ i = o) ∨ i = k) W4 (((W5.setCell ⟨k, 0, none⟩ v.w).setCell ⟨k, 1, none⟩ v.p).setCell ⟨k, 2, none⟩ v.b) := by
  obtain ⟨P', N', v, h1, h2, h3, h5, h6⟩ := hst
  obtain ⟨hB1, hB2, ws, hws, hO⟩ := h1.out
  have hv0 : ∀ i, OfO o v0 i → i = o := by
    rintro i (e | e | e | e)
    · exact e
    · cases e
    · cases e
    · cases e
  have hk5 : W5.heap[k]? = some (.cells #[nilV, nilV, nilV] 48 (0, 0)) := by
    refine (h6.block k (blk_lt h4) ?_).trans h4
    rintro (e | e)
    · exact hk e
    · exact hok (hv0 k e)
  have hkz := blk_lt h4
  have nk : ¬ (LX b me mq P' k ∨ OfO o v k) := by
    rintro (e | e)
    · rcases h1.led.typ e ⟨_, _, hk5⟩ with e | e <;> exact absurd e (by decide)
    · rcases h5 k e with e | e
      · exact hok (hv0 k e)
      · omega
  have hk3 : Kept (fun i => i = k) W5 (((W5.setCell ⟨k, 0, none⟩ v.w).setCell ⟨k, 1, none⟩ v.p).setCell ⟨k, 2, none⟩ v.b) :=
    (((Kept.refl (fun i => i = k) W5).setCell (p := ⟨k, 0, none⟩) (.inl rfl) _).setCell (p := ⟨k, 1, none⟩) (.inl rfl) _).setCell (p := ⟨k, 2, none⟩) (.inl rfl) _
  have n8 : ∀ i, Typ W5 i 5 → ¬ i = k := fun i hi e => by subst e; exact absurd (hi.eq ⟨_, _, hk5⟩) (by decide)
  obtain ⟨A1, c1, s1⟩ := own_slice hO.rw_
  obtain ⟨A2, c2, s2⟩ := own_slice hO.rp
  obtain ⟨A3, c3, s3⟩ := own_slice hO.rb
  refine ⟨v, ⟨A1, ws.length, c1, A2, q'.ps.length, c2, A3, q'.bs.length, c3, (show v = ⟨v.w, v.p, v.b⟩ from rfl).trans (by rw [s1, s2, s3])⟩, ⟨by rw [blk_cell hO.blk]; rfl, by rw [blk_cell hO.blk]; rfl, by rw [blk_cell hO.blk]; rfl⟩, hk5, ⟨ws, hws, ?_, ?_, ?_, fun x hx => (hO.dat x hx).kept hk3 n8⟩, ?_⟩
  · exact hk3.row hO.rw_ (fun g hg e => nk (.inr (.inr (.inl (by rw [← e]; exact hg)))))
  · exact hk3.row hO.rp (fun g hg e => nk (.inr (.inr (.inr (.inl (by rw [← e]; exact hg))))))
  · exact hk3.row hO.rb (fun g hg e => nk (.inr (.inr (.inr (.inr (by rw [← e]; exact hg))))))
  · refine ⟨P', N', h1.led.kept hk3 (fun i hi e => nk (.inl (by rw [← e]; exact hi))) hkg, h2, h3, h6.mono (Y := fun i => (LX b me mq P i ∨ i = o) ∨ i = k) (fun i _ e => .inl (e.imp id (hv0 i))) |>.trans hk3 (fun i _ e => .inr e)⟩

section
variable {w : World} {b me mq N : Nat} {P : Int → Option Nat} {s : S}
/-- What a status answers. -/
def StaP (w w' : World) (b me mq : Nat) (P : Int → Option Nat) (N : Nat) (s : S) (r : Int) (l : List (Int × Int)) (e : Ending) : Prop :=
  if s.has r then ∃ k : Nat, k ≤ 1024 ∧ s.C ≤ s.h + (k : Int) * s.R ∧ ReqP w w' b me mq P (N + 2048) ((staK (s.leave r) r l k).1.setT r true) (staK (s.leave r) r l k).2 0 e
  else ReqP w w' b me mq P (N + 2048) s Dn.none 2 e
set_option maxHeartbeats 4000000 in
theorem status_any (h : LedAt w b me mq P N s) (r : Int) {A : Option Addr} {l : List (Int × Int)} {cap : Nat} (hcl : ∀ j, j < l.length → ∃ a, A = some a ∧ ¬ LX b me mq P a.block ∧ a.block < w.heap.size ∧ w.cell? (a.add (j * 2)) = some (.int .i64 (l.getD j (0, 0)).1) ∧ w.cell? ⟨(a.add (j * 2)).block, (a.add (j * 2)).off + 1, none⟩ = some (.int .u32 (l.getD j (0, 0)).2)) (hl : l.length ≤ 1000000) {n : Int} (hgb : GB s n) (hn : n + 1024 < 4294967295) (hN : N < 99990000) :
    Calls Tryd.prog 24 #[.pointer (some ⟨b, 0, none⟩), .int .i64 r, .slice A l.length cap] w fun e w' => StaP w w' b me mq P N s r l e := by
  obtain ⟨R, hR⟩ : ∃ R : Ending → World → Prop, R = fun e w' => StaP w w' b me mq P N s r l e := ⟨_, rfl⟩
  rw [← hR]
  obtain ⟨W0, hW0⟩ : ∃ W0, W0 = (((w.alloc (.cells #[.pointer (some ⟨b, 0, none⟩)] 27)).alloc (.cells #[.int .i64 r] 3)).alloc (.cells #[.slice A l.length cap] 39)).alloc zOut := ⟨_, rfl⟩
  have hb0 : Below w.heap.size w W0 := by rw [hW0]; exact ((((Below.refl _ w).alloc (Nat.le_refl _) _).alloc (by simp) _).alloc (by simp; omega) _).alloc (by simp; omega) _
  have hz0 : W0.heap.size = w.heap.size + 4 := by rw [hW0]; simp
  have k1 : W0.heap[w.heap.size]? = some (.cells #[.pointer (some ⟨b, 0, none⟩)] 27 (0, 0)) := by rw [hW0]; exact heap_up (heap_up (heap_up (World.alloc_heap_new w _)))
  have k2 : W0.heap[w.heap.size + 1]? = some (.cells #[.int .i64 r] 3 (0, 0)) := by rw [hW0]; exact heap_up (heap_up (heap2 w _ _))
  have k3 : W0.heap[w.heap.size + 2]? = some (.cells #[.slice A l.length cap] 39 (0, 0)) := by
    rw [hW0]
    refine heap_up ?_
    have := World.alloc_heap_new ((w.alloc (.cells #[.pointer (some ⟨b, 0, none⟩)] 27)).alloc (.cells #[.int .i64 r] 3)) (.cells #[.slice A l.length cap] 39)
    rw [World.size_alloc, World.size_alloc] at this
    exact this
  have k4 : W0.heap[w.heap.size + 3]? = some (.cells #[nilV, nilV, nilV] 48 (0, 0)) := by
    rw [hW0]
    have := World.alloc_heap_new (((w.alloc (.cells #[.pointer (some ⟨b, 0, none⟩)] 27)).alloc (.cells #[.int .i64 r] 3)).alloc (.cells #[.slice A l.length cap] 39)) zOut
    rw [World.size_alloc, World.size_alloc, World.size_alloc] at this
    exact this
  have h0 := h.below hb0
  have HM := Lib.hid (made_any h0)
  have HH := Lib.hid (has_any h0 r)
  have hBX : ∀ V : World, (∀ k, w.heap.size ≤ k → k < w.heap.size + 4 → V.heap[k]? = W0.heap[k]?) → V.cell? ⟨w.heap.size, 0, none⟩ = some (.pointer (some ⟨b, 0, none⟩)) ∧ V.cell? ⟨w.heap.size + 1, 0, none⟩ = some (.int .i64 r) ∧ V.cell? ⟨w.heap.size + 2, 0, none⟩ = some (.slice A l.length cap) := by
    intro V hV
    have j1 := (hV w.heap.size (by omega) (by omega)).trans k1
    have j2 := (hV (w.heap.size + 1) (by omega) (by omega)).trans k2
    have j3 := (hV (w.heap.size + 2) (by omega) (by omega)).trans k3
    exact ⟨by rw [blk_cell j1]; rfl, by rw [blk_cell j2]; rfl, by rw [blk_cell j3]; rfl⟩
  obtain ⟨c1, c2, c3⟩ := hBX W0 (fun _ _ _ => rfl)
  cases hr : s.has r with
  | false =>
    rw [hr] at HH
    have HF : Hid (R (.returned (.tuple #[.agg #[nilV, nilV, nilV], .int .i64 2])) W0) := by
      rw [hR]
      show StaP _ _ _ _ _ _ _ _ _ _ _
      unfold StaP
      rw [hr]
      obtain ⟨v, a1, a2, P', N', a3, a4, a5⟩ := req_err h hb0 2
      exact ⟨v, a1, a2, P', N', a3, by omega, a5⟩
    obtain ⟨q0, q1, q2, q3⟩ := zcells _ _ k4
    clear hcl hR h h0 hb0 hBX k1 k2 k3 k4 hgb
    generalize l.length = L at *
    subst hW0
    refine (callsIn_wide (n := 9)).1 ?_
    refine callsIn_of_wp_marks Tryd.func24 rfl trivial ?_ rfl
    simp only [Tryd.ntmps24, List.size_toArray, List.length_cons, List.length_nil, Nat.reduceAdd, Nat.reduceSub, Array.replicate_succ, Array.replicate_zero, List.push_toArray, List.append_toArray, List.nil_append, List.cons_append]
    gi_wp2_with fail
    refine ⟨trivial, (callsIn_wide.2 HM.out).mono ?_⟩
    rintro e W ⟨rfl, rfl⟩
    gi_wp2_with fail
    refine ⟨trivial, (callsIn_wide.2 HH.out).mono ?_⟩
    rintro e W ⟨rfl, rfl⟩
    gi_wp2
    refine ⟨.tuple #[.agg #[nilV, nilV, nilV], .int .i64 2], ?_, HF.out⟩
    simp [results, Tryd.results24, go_sem, q0, q1, q2]
  | true =>
    rw [hr] at HH
    have HL := Lib.hid (leave_any h0 r)
    have HBX := Lib.hid hBX
    have hg0 := h.af.lt
    -- behind leave
    have HD : Hid (∀ W1, StepL W0 W1 b me mq P N (s.leave r) → (W1.alloc zOut).cell? ⟨w.heap.size, 0, none⟩ = some (.pointer (some ⟨b, 0, none⟩)) ∧ ∀ W3, W3 = (W1.alloc zOut).alloc (.cells #[.pointer (some ⟨b, 0, none⟩)] 27) →
        W3.heap.size = W1.heap.size + 2 ∧ w.heap.size + 4 ≤ W1.heap.size ∧ (∀ k, w.heap.size ≤ k → k < w.heap.size + 4 → W3.heap[k]? = W0.heap[k]?) ∧ W3.heap[W1.heap.size + 1]? = some (.cells #[.pointer (some ⟨b, 0, none⟩)] 27 (0, 0)) ∧
        ∃ P1 N1, LO W3 b me mq P1 N1 (s.leave r) W1.heap.size W1.heap.size v0 Dn.none ∧ N1 ≤ N ∧ (∀ c k, P1 c = some k → P c = some k ∨ W0.heap.size ≤ k) ∧ (∀ k, LX b me mq P1 k → k < W1.heap.size) ∧ Kept (LX b me mq P) w W3) := by
      intro W1 hst
      obtain ⟨P1, N1, hL1, hN1, hP1, hK1⟩ := hst
      have hs01 := hK1.size
      have hbx : ∀ k, w.heap.size ≤ k → k < w.heap.size + 4 → W1.heap[k]? = W0.heap[k]? := fun k e1 e2 => hK1.block k (by omega) (fun e => by have := h.lt e; omega)
      have hb2 := alloc_below W1 zOut
      refine ⟨?_, ?_⟩
      · obtain ⟨z1, _, _⟩ := hBX (W1.alloc zOut) (fun k e1 e2 => (hb2.block k (by omega)).trans (hbx k e1 e2))
        exact z1
      · intro W3 hW3
        have hb3 : Below W1.heap.size W1 W3 := by rw [hW3]; exact hb2.trans ((alloc_below _ _).mono hb2.size)
        have ho : W3.heap[W1.heap.size]? = some (.cells #[nilV, nilV, nilV] 48 (0, 0)) := by rw [hW3]; exact heap_up (World.alloc_heap_new W1 zOut)
        refine ⟨by rw [hW3]; simp, by omega, fun k e1 e2 => (hb3.block k (by omega)).trans (hbx k e1 e2), by rw [hW3]; exact heap2 _ _ _, P1, N1, ⟨hL1.below hb3, OutP.nil (by omega) (Nat.le_refl _) ho⟩, hN1, hP1, fun k hk => hL1.lt hk, ?_⟩
        exact (((keptB hb0).mono (Y := LX b me mq P) (fun _ _ e => e.elim)).trans hK1 (fun _ _ e => e)).trans ((keptB hb3).mono (Y := LX b me mq P) (fun _ _ e => e.elim)) (fun _ _ e => e)
    have HOK := Lib.hid h.ok
    have HCL := Lib.hid hcl
    have HGB : Hid (GB (s.leave r) n) := hgb
    have HRR : Hid (∀ e w', StaP w w' b me mq P N s r l e → R e w') := by rw [hR]; exact fun e w' h => h
    have HHL := Lib.hid hl
    have HHN := Lib.hid hn
    have HK4 := Lib.hid k4
    have hlt4 : ∀ k, LX b me mq P k → k < w.heap.size := fun k hk => h.lt hk
    have HLT := Lib.hid hlt4
    clear hcl hR h h0 hb0 hBX k1 k2 k3 k4 hgb hl hlt4
    have HWZ := Lib.hid hz0
    obtain ⟨L, hL⟩ : ∃ L, L = l.length := ⟨_, rfl⟩
    have HLL := Lib.hid hL
    rw [← hL] at hW0
    subst hW0
    rw [← hL]
    clear hL hz0
    refine (callsIn_wide (n := 9)).1 ?_
    refine callsIn_of_wp_marks Tryd.func24 rfl trivial ?_ rfl
    simp only [Tryd.ntmps24, List.size_toArray, List.length_cons, List.length_nil, Nat.reduceAdd, Nat.reduceSub, Array.replicate_succ, Array.replicate_zero, List.push_toArray, List.append_toArray, List.nil_append, List.cons_append]
    gi_wp2_with fail
    refine ⟨trivial, (callsIn_wide.2 HM.out).mono ?_⟩
    rintro e W ⟨rfl, rfl⟩
    gi_wp2_with fail
    refine ⟨trivial, (callsIn_wide.2 HH.out).mono ?_⟩
    rintro e W ⟨rfl, rfl⟩
    gi_wp2_with fail
    refine ⟨trivial, (callsIn_wide.2 HL.out).mono ?_⟩
    rintro e W1 ⟨rfl, hst1⟩
    obtain ⟨x1, hD3⟩ := HD.out W1 hst1
    have HD3 := Lib.hid hD3
    clear hst1 hD3 HD HL HH HM c1 c2 c3
    gi_wp2_with fail
    refine ⟨trivial, (callsIn_wide.2 (own_fn _ _)).mono ?_⟩
    rintro e W3 ⟨rfl, hW3⟩
    obtain ⟨hz3, hz1, hbx3, j1, P1, N1, hLO, hN1, hP1, hP1lt, hK3⟩ := HD3.out W3 hW3
    clear hW3 HD3 x1
    gi_wp2_with fail
    have hbox := HBX.out W3 hbx3
    have hk4' : W3.heap[w.heap.size + 3]? = some (.cells #[nilV, nilV, nilV] 48 (0, 0)) := (hbx3 _ (by omega) (by omega)).trans HK4.out
    generalize ((((w.alloc (.cells #[.pointer (some ⟨b, 0, none⟩)] 27)).alloc (.cells #[.int .i64 r] 3)).alloc (.cells #[.slice A L cap] 39)).alloc zOut) = W0 at *
    have hwz := HWZ.out
    have hok1 := hLO.led.ok
    obtain ⟨s1, hs1⟩ : ∃ s1, s1 = s.leave r := ⟨_, rfl⟩
    rw [← hs1] at hLO hok1 HGB
    have hsta := staK_inv HGB.out r l
    -- what stays through the loop
    have hnb : ∀ k, w.heap.size ≤ k → k < w.heap.size + 4 → ¬ (LX b me mq P1 k ∨ OfO W1.heap.size v0 k) := by
      rintro k e1 e2 (e | e)
      · rcases LX.grow hP1 e with e | e
        · have := HLT.out k e; omega
        · omega
      · rcases e with e | e | e | e
        · omega
        · cases e
        · cases e
        · cases e
    have hnl : ¬ (LX b me mq P1 (W1.heap.size + 1) ∨ OfO W1.heap.size v0 (W1.heap.size + 1)) := by
      rintro (e | e)
      · have := hP1lt _ e; omega
      · rcases e with e | e | e | e
        · omega
        · cases e
        · cases e
        · cases e
    have hbxK : ∀ V, Kept (fun k => LX b me mq P1 k ∨ OfO W1.heap.size v0 k) W3 V → (V.cell? ⟨w.heap.size, 0, none⟩ = some (.pointer (some ⟨b, 0, none⟩)) ∧ V.cell? ⟨w.heap.size + 1, 0, none⟩ = some (.int .i64 r) ∧ V.cell? ⟨w.heap.size + 2, 0, none⟩ = some (.slice A L cap)) ∧ V.cell? ⟨W1.heap.size + 1, 0, none⟩ = some (.pointer (some ⟨b, 0, none⟩)) ∧ V.heap[w.heap.size + 3]? = some (.cells #[nilV, nilV, nilV] 48 (0, 0)) ∧ ClAt V A l := by
      intro V hV
      have e1 : ∀ k, w.heap.size ≤ k → k < w.heap.size + 4 → V.heap[k]? = W0.heap[k]? := fun k e1 e2 => (hV.block k (by omega) (hnb k e1 e2)).trans (hbx3 k e1 e2)
      have e2 := (hV.block (W1.heap.size + 1) (by omega) hnl).trans j1
      refine ⟨by rw [HLL.out]; exact HBX.out V e1, by rw [blk_cell e2]; rfl, (e1 _ (by omega) (by omega)).trans HK4.out, fun j hj => ?_⟩
      obtain ⟨a, ea, na, la, q1, q2⟩ := HCL.out j hj
      have hK := hK3
      have na1 : ¬ (LX b me mq P1 a.block ∨ OfO W1.heap.size v0 a.block) := by
        rintro (e | e)
        · rcases LX.grow hP1 e with e | e
          · exact na e
          · omega
        · rcases e with e | e | e | e
          · omega
          · cases e
          · cases e
          · cases e
      have hbk : V.heap[a.block]? = w.heap[a.block]? := (hV.block a.block (by have := hK.size; omega) na1).trans (hK.block a.block la na)
      have hab : ∀ m, (a.add m).block = a.block := fun m => by unfold Addr.add; split <;> rfl
      refine ⟨a, ea, (World.cell?_of_block (by rw [hab]; exact hbk)).trans q1, (World.cell?_of_block (by dsimp only; rw [hab]; exact hbk)).trans q2⟩
    refine range_both (gf := 66) (lb := #[.pointer (some ⟨W1.heap.size + 1, 0, none⟩)]) rfl (enters_of Tryd.func66 (by kernel_rfl) rfl) (.exit 0) ?_
    intro fn rec W6 hrec hW6
    obtain ⟨D, hD⟩ : ∃ D, W3.heap.size = D := ⟨_, rfl⟩
    rw [hD] at hrec ⊢
    have hD1 : W6.heap[D]? = some (.deferred (some [])) := by
      rw [hW6, ← hD]; exact heap_up (World.alloc_heap_new _ _)
    have hL1 : W6.heap[D + 1]? = some (.loop (rec .ready none)) := by
      rw [hW6, ← hD]; exact heap2 _ _ _
    have hb6 : Below W3.heap.size W3 W6 := by rw [hW6]; exact (alloc_below _ _).trans ((alloc_below _ _).mono (by simp))
    have hst6 : StepLO W3 W6 b me mq P1 (N1 + 2 * 0) (staK s1 r l 0).1 W1.heap.size W1.heap.size v0 (staK s1 r l 0).2 := StepLO.of_below hb6 (StepLO.refl (hLO.below hb6) (by omega))
    clear hW6 hb6
    refine (own_run (9 - 1) (D + 1) (W1.heap.size + 1) b s1.h s1.R s1.C (by omega) hok1.h0 (by have := hok1.h0; have := hok1.hR; omega) hok1.R1 hok1.hR hok1.C1 hok1.C0
      (J := fun k V => k ≤ 1024 ∧ StepLO W3 V b me mq P1 (N1 + 2 * k) (staK s1 r l k).1 W1.heap.size W1.heap.size v0 (staK s1 r l k).2 ∧ V.heap[D]? = some (.deferred (some [])) ∧ V.heap[D + 1]? = some (.loop (rec .ready none)))
      (Jx := fun _ => False) ?_ ?_ ⟨by omega, hst6, hD1, hL1⟩).mono ?_
    · rintro k V ⟨hk, ⟨Pb, Nb, vb, hLb, hNb, hPb, hvb, hKb⟩, hVD, hVL⟩
      obtain ⟨_, z4, _, _⟩ := hbxK V hKb
      obtain ⟨e1, e2, e3, _⟩ := (hsta k hk).1
      obtain ⟨f0, f1, f2, _⟩ := hLb.led.five
      rw [e1] at f0
      rw [e2] at f1
      rw [e3] at f2
      exact ⟨z4, f0, f1, f2⟩
    · rintro k V ⟨hk, hst, hVD, hVL⟩ hlt
      obtain ⟨⟨e1, e2, e3, _⟩, g1, l1⟩ := hsta k hk
      have hsucc := staK_succ s1 r l k
      obtain ⟨c, hc⟩ : ∃ c, c = s1.h + (k : Int) * s1.R := ⟨_, rfl⟩
      rw [← hc] at hsucc hlt ⊢
      have hk1 : k + 1 ≤ 1024 := by
        have h1 := hok1.h0
        have h2 := hok1.hR
        have h3 := hok1.C1
        have h4 : (k : Int) ≤ k * s1.R := by
          have := Int.mul_le_mul_of_nonneg_left (show (1 : Int) ≤ s1.R by omega) (show (0 : Int) ≤ (k : Int) by omega)
          rwa [Int.mul_one] at this
        omega
      have hic : (staK s1 r l k).1.is c = true := by
        have hokk : Lg.Ok (staK s1 r l k).1 := by obtain ⟨_, _, _, h, _⟩ := hst; exact h.led.ok
        have := own_is hokk (k := k) (by rw [e1, e2, e3, ← hc]; exact hlt)
        rw [e1, e2, ← hc] at this
        exact this
      have hfull : full (staK s1 r l k).1 c = false := full_of g1 (by have := HHN.out; omega) c
      generalize hsk : (staK s1 r l k).1 = sk at *
      generalize hqk : (staK s1 r l k).2 = qk at *
      have hsucc2 : staK s1 r l (k + 1) = staStep r l (sk, qk) c := by rw [hsucc, ← hsk, ← hqk]
      have hL0 := hVL
      rw [hrec] at hL0
      have hy := run_yield (P := Tryd.prog) (args := #[.int .i64 c]) hL0 rfl
      refine ⟨fn, _, _, _, hy, roundIn_of_wpIn trivial ?_⟩
      obtain ⟨Wb, hWb⟩ : ∃ Wb, V.putObj (D + 1) (.loop (rec .busy none)) = Wb := ⟨_, rfl⟩
      have hbg : (Instr.beginRound (D + 1)).run Tryd.prog V = .ok () Wb := by
        rw [← hWb, hrec]; exact run_beginRound hL0 rfl
      have hLb : Wb.heap[D + 1]? = some (.loop (rec .busy none)) := by rw [← hWb]; exact World.putObj_heap_same (blk_lt hVL)
      have hDb : Wb.heap[D]? = some (.deferred (some [])) := by rw [← hWb]; exact (World.putObj_heap_other (by omega)).trans hVD
      have hstb : StepLO W3 Wb b me mq P1 (N1 + 2 * k) sk W1.heap.size W1.heap.size v0 qk := by
        rw [← hWb]
        exact hst.put (by omega) hVL rfl (fun _ _ e => by cases e) _
      -- what a round comes to
      have HEnd : Hid (∀ W', StepLO W3 W' b me mq P1 (N1 + 2 * (k + 1)) (staK s1 r l (k + 1)).1 W1.heap.size W1.heap.size v0 (staK s1 r l (k + 1)).2 → W'.heap[D]? = some (.deferred (some [])) → W'.heap[D + 1]? = some (.loop (rec .busy none)) →
          ∃ z w', (Instr.endRound (D + 1) none).run Tryd.prog W' = .ok z w' ∧ ((Ending.returned z = .returned (.bool true) ∧ (k + 1 ≤ 1024 ∧ StepLO W3 w' b me mq P1 (N1 + 2 * (k + 1)) (staK s1 r l (k + 1)).1 W1.heap.size W1.heap.size v0 (staK s1 r l (k + 1)).2 ∧ w'.heap[D]? = some (.deferred (some [])) ∧ w'.heap[D + 1]? = some (.loop (rec .ready none)))) ∨ (Ending.returned z = .returned (.bool false) ∧ False))) := by
        intro W' a1 a2 a3
        have hL3 := a3
        rw [hrec] at hL3
        have he := run_endRound (P := Tryd.prog) none hL3
        refine ⟨_, _, he, .inl ⟨rfl, hk1, a1.put (by omega) a3 rfl (fun _ _ e => by cases e) _, (World.putObj_heap_other (by omega)).trans a2, ?_⟩⟩
        rw [World.putObj_heap_same (blk_lt hL3), hrec]; rfl
      have hstb0 := hstb
      obtain ⟨Pb, Nb, vb, hLOb, hNb, hPb, hvb, hKb⟩ := hstb
      have hci := hLOb.led.ok.i64 hic
      obtain ⟨oe, hoe⟩ : ∃ oe : Obj, oe = .cells #[.int .i64 (sk.E c).r, .int .u32 (sk.E c).g] 81 := ⟨_, rfl⟩
      -- behind the entry
      have HA : Hid (∀ W8, Below Wb.heap.size Wb W8 → (W8.alloc oe).cell? ⟨W8.heap.size, 0, none⟩ = some (.int .i64 (sk.E c).r) ∧ (W8.alloc oe).cell? ⟨W8.heap.size, 1, none⟩ = some (.int .u32 (sk.E c).g) ∧ (W8.alloc oe).cell? ⟨w.heap.size + 1, 0, none⟩ = some (.int .i64 r) ∧ (W8.alloc oe).cell? ⟨w.heap.size + 2, 0, none⟩ = some (.slice A L cap) ∧
          (staOk sk r l c = false → ∀ W9, Below (W8.alloc oe).heap.size (W8.alloc oe) W9 → ∃ z w', (Instr.endRound (D + 1) none).run Tryd.prog W9 = .ok z w' ∧ ((Ending.returned z = .returned (.bool true) ∧ (k + 1 ≤ 1024 ∧ StepLO W3 w' b me mq P1 (N1 + 2 * (k + 1)) (staK s1 r l (k + 1)).1 W1.heap.size W1.heap.size v0 (staK s1 r l (k + 1)).2 ∧ w'.heap[D]? = some (.deferred (some [])) ∧ w'.heap[D + 1]? = some (.loop (rec .ready none)))) ∨ (Ending.returned z = .returned (.bool false) ∧ False))) ∧
          Calls Tryd.prog 49 #[.slice A L cap, .agg #[.int .i64 c, .int .u32 (sk.E c).g]] (W8.alloc oe) (fun e W9 => e = .returned (.bool (decide ((c, (sk.E c).g) ∈ l))) ∧ Below (W8.alloc oe).heap.size (W8.alloc oe) W9 ∧ W9.cell? ⟨w.heap.size, 0, none⟩ = some (.pointer (some ⟨b, 0, none⟩)) ∧
            (staOk sk r l c = true → Calls Tryd.prog 50 #[.pointer (some ⟨b, 0, none⟩), .pointer (some ⟨W1.heap.size, 0, none⟩), .int .i64 c] W9 fun e W10 => e = .returned (.tuple #[]) ∧ ∃ z w', (Instr.endRound (D + 1) none).run Tryd.prog W10 = .ok z w' ∧ ((Ending.returned z = .returned (.bool true) ∧ (k + 1 ≤ 1024 ∧ StepLO W3 w' b me mq P1 (N1 + 2 * (k + 1)) (staK s1 r l (k + 1)).1 W1.heap.size W1.heap.size v0 (staK s1 r l (k + 1)).2 ∧ w'.heap[D]? = some (.deferred (some [])) ∧ w'.heap[D + 1]? = some (.loop (rec .ready none)))) ∨ (Ending.returned z = .returned (.bool false) ∧ False))))) := by
        intro W8 h8
        have h9 : Below Wb.heap.size Wb (W8.alloc oe) := h8.trans ((alloc_below W8 oe).mono h8.size)
        have je := World.alloc_heap_new W8 oe
        rw [hoe] at je
        have hK9 : ∀ V', Below (W8.alloc oe).heap.size (W8.alloc oe) V' → Kept (fun k => LX b me mq P1 k ∨ OfO W1.heap.size v0 k) W3 V' := fun V' h => (hKb.trans ((keptB (h9.trans (h.mono h9.size))).mono (Y := fun _ => False) (fun _ _ h => h)) (fun _ _ h => h.elim))
        obtain ⟨⟨z1, z2, z3⟩, _, _, _⟩ := hbxK _ (hK9 _ (Below.refl _ _))
        refine ⟨by rw [hoe, blk_cell je]; rfl, by rw [hoe, blk_cell je]; rfl, z2, z3, fun hno W9 h10 => ?_, ?_⟩
        · have hbb := h9.trans (h10.mono h9.size)
          refine HEnd.out W9 ?_ ((hbb.block _ (blk_lt hDb)).trans hDb) ((hbb.block _ (blk_lt hLb)).trans hLb)
          rw [hsucc2]
          unfold staStep
          dsimp only
          rw [hno]
          exact (hstb0.then_below hbb).mono (by omega)
        · have hcc := contains_any (w := W8.alloc oe) (A := A) (l := l) (cap := cap) (fun V' h => (hbxK V' (hK9 V' h)).2.2.2) HHL.out c (sk.E c).g
          rw [← HLL.out] at hcc
          refine hcc.mono ?_
          rintro e W9 ⟨rfl, h10⟩
          have hbb := h9.trans (h10.mono h9.size)
          obtain ⟨⟨z1, _, _⟩, _, _, _⟩ := hbxK W9 (hK9 W9 h10)
          refine ⟨rfl, h10, z1, fun hyes => ?_⟩
          have hN9 : Nb < 99999990 := by omega
          refine (free_any (hLOb.below hbb) hic hfull hN9 l1 (by omega)).mono ?_
          rintro e W10 ⟨rfl, hs⟩
          have hs2 := hs.mono (N2 := N1 + 2 * (k + 1)) (by omega)
          obtain ⟨_, _, _, _, _, _, _, hK10⟩ := hs
          have hLD : W9.heap[D]? = some (.deferred (some [])) := (hbb.block _ (blk_lt hDb)).trans hDb
          have hLL : W9.heap[D + 1]? = some (.loop (rec .busy none)) := (hbb.block _ (blk_lt hLb)).trans hLb
          refine ⟨rfl, HEnd.out W10 ?_ ((hK10.block _ (blk_lt hLD) ((hLOb.below hbb).nl hLD rfl (fun _ _ e => by cases e))).trans hLD) ((hK10.block _ (blk_lt hLL) ((hLOb.below hbb).nl hLL rfl (fun _ _ e => by cases e))).trans hLL)⟩
          rw [hsucc2]
          unfold staStep
          dsimp only
          rw [hyes]
          exact StepLO.trans hPb hvb hKb (StepLO.of_below hbb hs2)
      have HE := Lib.hid (entry_any hLOb.led hci)
      simp only [ev] at HE
      obtain ⟨⟨z1, _, _⟩, _, _, _⟩ := hbxK Wb hKb
      have HBG := Lib.hid hbg
      have hdd : staOk sk r l c = (decide ((sk.E c).r = r) && !decide ((c, (sk.E c).g) ∈ l)) := rfl
      clear hstb0 hbg hy hst hVD hVL hL0 hWb hLb hDb hLOb hNb hPb hvb hKb hfull hic hci hrec hsucc hsucc2 hlt hc hk1 hsk hqk hsta g1 l1 hLO hN1 hP1 hP1lt hK3 hnb hnl hbxK hst6 hD1 hL1 hbox hk4' hbx3 j1 HEnd hok1 hs1 e1 e2 e3 hwz hz3 hz1
      have H7 : Hid (1 ≤ 9 - 1 - 1) := by show 1 ≤ 9 - 1 - 1; omega
      rw [hoe] at HA
      clear hoe
      generalize (sk.E c).r = r0 at *
      generalize (sk.E c).g = gg at *
      by_cases hA : r0 = r
      · have hbq : (r0 == r) = true := by simp [hA]
        have hd2 : decide (r0 = r) = true := by simp [hA]
        rw [hd2] at hdd
        clear hA
        cases hM : decide ((c, gg) ∈ l) with
        | true =>
          rw [hM] at hdd HA
          have hno : staOk sk r l c = false := hdd
          gi_wp2
          refine ⟨Wb, HBG.out, ?_⟩
          gi_wp2_with fail
          refine ⟨trivial, (CallsIn.inRound (D + 1) (callsIn_wide.2 HE.out)).mono ?_⟩
          rintro e W8 ⟨rfl, h8⟩
          obtain ⟨y0, y1, y2, y3, hno9, hC⟩ := HA.out W8 h8
          have HNO := Lib.hid hno9
          have HC := Lib.hid hC
          clear h8 hno9 hC HA HE
          gi_wp2_with fail
          refine ⟨trivial, (CallsIn.inRound (D + 1) (callsIn_wide.2 HC.out)).mono ?_⟩
          rintro e W9 ⟨rfl, h10, z9, hfr⟩
          have HF := Lib.hid (HNO.out hno W9 h10)
          clear h10 hfr HNO HC hM hdd
          gi_wp2
          exact HF.out
        | false =>
          rw [hM] at hdd HA
          have hyes : staOk sk r l c = true := hdd
          gi_wp2
          refine ⟨Wb, HBG.out, ?_⟩
          gi_wp2_with fail
          refine ⟨trivial, (CallsIn.inRound (D + 1) (callsIn_wide.2 HE.out)).mono ?_⟩
          rintro e W8 ⟨rfl, h8⟩
          obtain ⟨y0, y1, y2, y3, hno9, hC⟩ := HA.out W8 h8
          have HNO := Lib.hid hno9
          have HC := Lib.hid hC
          clear h8 hno9 hC HA HE
          gi_wp2_with fail
          refine ⟨trivial, (CallsIn.inRound (D + 1) (callsIn_wide.2 HC.out)).mono ?_⟩
          rintro e W9 ⟨rfl, h10, z9, hfr⟩
          have HF := Lib.hid (hfr hyes)
          clear h10 hfr HNO HC hM hdd
          gi_wp2_with fail
          refine ⟨trivial, (CallsIn.inRound (D + 1) (callsIn_wide.2 HF.out)).mono ?_⟩
          rintro e W10 ⟨rfl, hE9⟩
          have HZ := Lib.hid hE9
          clear hE9 HF
          gi_wp2
          exact HZ.out
      · have hbq : (r0 == r) = false := by simp [hA]
        have hd2 : decide (r0 = r) = false := by simp [hA]
        rw [hd2] at hdd
        have hno : staOk sk r l c = false := hdd
        clear hA
        gi_wp2
        refine ⟨Wb, HBG.out, ?_⟩
        gi_wp2_with fail
        refine ⟨trivial, (CallsIn.inRound (D + 1) (callsIn_wide.2 HE.out)).mono ?_⟩
        rintro e W8 ⟨rfl, h8⟩
        obtain ⟨y0, y1, y2, y3, hno9, hC⟩ := HA.out W8 h8
        have HNO := Lib.hid hno9
        have HC := Lib.hid hC
        clear h8 hno9 hC HA HE
        have HF := Lib.hid (HNO.out hno _ (Below.refl _ _))
        clear HNO HC hdd
        gi_wp2
        refine ⟨trivial, ?_⟩
        gi_wp2
        exact HF.out
    · rintro e W7 ⟨hv, hrest⟩
      obtain ⟨k, hkC, hk, hst7, hD7, hL7⟩ : ∃ k : Nat, s1.C ≤ s1.h + k * s1.R ∧ k ≤ 1024 ∧ StepLO W3 W7 b me mq P1 (N1 + 2 * k) (staK s1 r l k).1 W1.heap.size W1.heap.size v0 (staK s1 r l k).2 ∧ W7.heap[D]? = some (.deferred (some [])) ∧ W7.heap[D + 1]? = some (.loop (rec .ready none)) := by
        rcases hrest with ⟨k, h1, h2⟩ | h
        · exact ⟨k, h1, h2⟩
        · exact h.elim
      refine ⟨hv, .inl ⟨hL7, ?_⟩⟩
      have hst8 := hst7.put (by omega) hL7 rfl (fun _ _ e => by cases e) (.loop (rec .exhausted none))
      have hD8 : (W7.putObj (D + 1) (.loop (rec .exhausted none))).heap[D]? = some (.deferred (some [])) := (World.putObj_heap_other (by omega)).trans hD7
      generalize W7.putObj (D + 1) (.loop (rec .exhausted none)) = W8 at *
      obtain ⟨e1, e2, e3, _⟩ := (hsta k hk).1
      generalize hsk : (staK s1 r l k).1 = sk at *
      generalize hqk : (staK s1 r l k).2 = qk at *
      obtain ⟨Pb, Nb, vb, hLb, hNb, hPb, hvb, hKb⟩ := hst8
      have hskr : sk.has r = true := by
        have : s1.R = s.R := by rw [hs1]; rfl
        unfold S.has at hr ⊢
        rw [e2, this]; exact hr
      obtain ⟨i, hi, hri⟩ := told_cell hLb.led hskr
      have ct : W8.drew.cell? ⟨b, 5 + r.toNat, none⟩ = some (.bool (sk.T r)) := by rw [show r.toNat = i by omega, hri]; exact hLb.led.told hi
      have cf : W8.drew.frozen? ⟨b, 5 + r.toNat, none⟩ = false := hLb.led.free _
      have i0 : (0 : Int) ≤ r := by omega
      have i1 : r < 64 := by omega
      obtain ⟨⟨z1, z2, z3⟩, _, _, _⟩ := hbxK W8 hKb
      have z1' : W8.drew.cell? ⟨w.heap.size, 0, none⟩ = _ := z1
      have z2' : W8.drew.cell? ⟨w.heap.size + 1, 0, none⟩ = _ := z2
      have hkb9 : Kept (fun k => k = b) W8 (W8.drew.setCell ⟨b, 5 + r.toNat, none⟩ (.bool true)) := ((Kept.refl (fun k => k = b) W8).drew).setCell (p := ⟨b, 5 + r.toNat, none⟩) (.inl rfl) _
      have hst9 : StepLO W3 (W8.drew.setCell ⟨b, 5 + r.toNat, none⟩ (.bool true)) b me mq P1 (N1 + 2 * k) (sk.setT r true) W1.heap.size W1.heap.size v0 qk := by
        have hl9 := hLb.led.drew.setT hi true
        rw [show (i : Int) = r by omega, show i = r.toNat by omega] at hl9
        refine StepLO.trans hPb hvb hKb (hLb.led_step ⟨Pb, Nb, hl9, hNb, fun _ _ e => .inl e, hkb9.mono (fun _ _ e => .inl e)⟩)
      have hD9 : (W8.drew.setCell ⟨b, 5 + r.toNat, none⟩ (.bool true)).heap[D]? = some (.deferred (some [])) := (hkb9.block D (blk_lt hD8) (fun e => by rw [e, hLb.led.blk] at hD8; cases hD8)).trans hD8
      generalize hW9 : W8.drew.setCell ⟨b, 5 + r.toNat, none⟩ (.bool true) = W9 at *
      obtain ⟨v, ⟨A1, n1, c1, A2, n2, c2, A3, n3, c3, rfl⟩, ⟨x0, x1, x2⟩, hk9, hO, P', N', hL', hN', hP', hK'⟩ := fin_out2 (k := w.heap.size + 3) hk4' (fun e => hnb _ (by omega) (by omega) (.inl e)) (by omega) (by omega) hst9
      dsimp only at x0 x1 x2 hO hL' hK'
      have f5 := blk_free hk9
      obtain ⟨y0, y1, y2, _⟩ := zcells _ _ hk9
      have hx6 := blk_rec (b1 := .slice A1 n1 c1) (b2 := .slice A2 n2 c2) (b3 := .slice A3 n3 c3) hk9
      have hk3 : Kept (fun i => i = w.heap.size + 3) W9 (((W9.setCell ⟨w.heap.size + 3, 0, none⟩ (.slice A1 n1 c1)).setCell ⟨w.heap.size + 3, 1, none⟩ (.slice A2 n2 c2)).setCell ⟨w.heap.size + 3, 2, none⟩ (.slice A3 n3 c3)) :=
        (((Kept.refl (fun i => i = w.heap.size + 3) W9).setCell (p := ⟨w.heap.size + 3, 0, none⟩) (.inl rfl) _).setCell (p := ⟨w.heap.size + 3, 1, none⟩) (.inl rfl) _).setCell (p := ⟨w.heap.size + 3, 2, none⟩) (.inl rfl) _
      have hDX : (((W9.setCell ⟨w.heap.size + 3, 0, none⟩ (.slice A1 n1 c1)).setCell ⟨w.heap.size + 3, 1, none⟩ (.slice A2 n2 c2)).setCell ⟨w.heap.size + 3, 2, none⟩ (.slice A3 n3 c3)).heap[D]? = some (.deferred (some [])) := (hk3.block D (blk_lt hD9) (by omega)).trans hD9
      have HF : Hid (R (.returned (.tuple #[.agg #[.slice A1 n1 c1, .slice A2 n2 c2, .slice A3 n3 c3], .int .i64 0])) ((((W9.setCell ⟨w.heap.size + 3, 0, none⟩ (.slice A1 n1 c1)).setCell ⟨w.heap.size + 3, 1, none⟩ (.slice A2 n2 c2)).setCell ⟨w.heap.size + 3, 2, none⟩ (.slice A3 n3 c3)).putObj D (.deferred none))) := by
        refine HRR.out _ _ ?_
        unfold StaP
        rw [if_pos hr]
        have hC : s1.C = s.C ∧ s1.h = s.h ∧ s1.R = s.R := by rw [hs1]; exact ⟨rfl, rfl, rfl⟩
        refine ⟨k, hk, by rw [← hC.1, ← hC.2.1, ← hC.2.2]; exact hkC, ⟨.slice A1 n1 c1, .slice A2 n2 c2, .slice A3 n3 c3⟩, rfl, ?_, P', N', ?_, by omega, fun c i e => ?_, ?_⟩
        · rw [← hs1, hqk]; exact (hO.put_def hDX _).base (by omega)
        · rw [← hs1, hsk]; exact hL'.put_def hDX _
        · rcases hP' c i e with e | e
          · rcases hP1 c i e with e | e
            · exact .inl e
            · right; omega
          · right; omega
        · refine (hK3.trans hK' (fun i hi e => ?_)).trans (put_kept _ D _) (fun i hi e => by omega)
          rcases e with (e | e) | e
          · rcases LX.grow hP1 e with e | e
            · exact e
            · omega
          · omega
          · omega
      have g0 := fun o => (put_kept (((W9.setCell ⟨w.heap.size + 3, 0, none⟩ (.slice A1 n1 c1)).setCell ⟨w.heap.size + 3, 1, none⟩ (.slice A2 n2 c2)).setCell ⟨w.heap.size + 3, 2, none⟩ (.slice A3 n3 c3)) D o).cell (p := ⟨w.heap.size + 3, 0, none⟩) (v := .slice A1 n1 c1) (by rw [blk_cell hx6]; rfl) (by show ¬ w.heap.size + 3 = D; omega)
      have g1 := fun o => (put_kept (((W9.setCell ⟨w.heap.size + 3, 0, none⟩ (.slice A1 n1 c1)).setCell ⟨w.heap.size + 3, 1, none⟩ (.slice A2 n2 c2)).setCell ⟨w.heap.size + 3, 2, none⟩ (.slice A3 n3 c3)) D o).cell (p := ⟨w.heap.size + 3, 1, none⟩) (v := .slice A2 n2 c2) (by rw [blk_cell hx6]; rfl) (by show ¬ w.heap.size + 3 = D; omega)
      have g2 := fun o => (put_kept (((W9.setCell ⟨w.heap.size + 3, 0, none⟩ (.slice A1 n1 c1)).setCell ⟨w.heap.size + 3, 1, none⟩ (.slice A2 n2 c2)).setCell ⟨w.heap.size + 3, 2, none⟩ (.slice A3 n3 c3)) D o).cell (p := ⟨w.heap.size + 3, 2, none⟩) (v := .slice A3 n3 c3) (by rw [blk_cell hx6]; rfl) (by show ¬ w.heap.size + 3 = D; omega)
      have HDX := Lib.hid hDX
      have hw9 := Lib.hid hW9
      clear hDX hk3 hx6 hk9 hO hL' hN' hP' hK' hst9 hD9 hkb9 hLb hNb hPb hvb hKb hst7 hD7 hL7 hrest hbxK hv hrec hsta hLO hN1 hP1 hP1lt hK3 hnb hnl hst6 hD1 hL1 hbox hk4' hbx3 j1 hok1 hs1 e1 e2 e3 hwz hz3 hz1 hsk hqk hkC hk hri hi hskr hD8 hW9 z3
      gi_wp2
      gi_region
      all_goals
        rw [show (W8.setCell ⟨b, 5 + r.toNat, none⟩ (.bool true)).drew = W9 from hw9.out]
        gi_wp2
        refine ⟨by simp, .inl ⟨_, _, rfl, run_takeDeferred HDX.out, ?_⟩⟩
        refine ⟨.tuple #[.agg #[.slice A1 n1 c1, .slice A2 n2 c2, .slice A3 n3 c3], .int .i64 0], ?_, HF.out⟩
        simp [results, Tryd.results24, go_sem, g0, g1, g2]
end
end Go.Proofs.YtlmbbnkdiokabaaDoor
