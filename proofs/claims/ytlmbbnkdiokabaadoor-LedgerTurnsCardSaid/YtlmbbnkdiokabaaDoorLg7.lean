/-
  One waits no more: for a cell (cut), for any (leave).
-/
import Derived.Test.YtlmbbnkdiokabaaDoorLg6
import Derived.Maps.RangeWalk
namespace Go.Proofs.YtlmbbnkdiokabaaDoor
set_option maxRecDepth 100000
set_option linter.unusedSimpArgs false
open Go Go.RowKit Sp Lg
open Go.Maps (Keyed IsMap)

namespace Lg
def S.leave (s : S) (r : Int) : S := { s with Q := fun c => cutL (s.Q c) r }
theorem Ok.setQ {s : S} (h : Ok s) {c : Int} {l : List Wt} (hc : s.is c = true ∨ l = []) (hl : Sp.Ok l) (hm : ∀ x ∈ l, s.has x.r = true ∧ x.r ≠ (s.E c).r ∧ 0 ≤ x.s ∧ x.s ≤ 18446744073709551615 ∧ 0 ≤ x.p ∧ x.p ≤ 15) : Ok (s.setQ c l) where
  h0 := h.h0
  hR := h.hR
  R1 := h.R1
  C0 := h.C0
  C1 := h.C1
  out := fun x hx => by
    have := h.out x hx
    refine ⟨this.1, ?_⟩
    show (if x = c then l else s.Q x) = []
    by_cases e : x = c
    · rw [if_pos e]
      rcases hc with hc | hc
      · subst e; have h2 : s.is x = false := hx; rw [hc] at h2; cases h2
      · exact hc
    · rw [if_neg e]; exact this.2
  q := fun x => by
    show Sp.Ok (if x = c then l else s.Q x)
    by_cases e : x = c
    · rw [if_pos e]; exact hl
    · rw [if_neg e]; exact h.q x
  qr := fun x y hy => by
    have hy2 : y ∈ (if x = c then l else s.Q x) := hy
    by_cases e : x = c
    · rw [if_pos e] at hy2; subst e; exact hm y hy2
    · rw [if_neg e] at hy2; exact h.qr x y hy2
  er := h.er
  eg := h.eg
theorem cutL_nil (r : Int) : cutL [] r = [] := rfl
theorem Ok.cut {s : S} (h : Ok s) (c r : Int) : Ok (s.setQ c (cutL (s.Q c) r)) := by
  refine h.setQ ?_ ((h.q c).cut r) (fun x hx => h.qr c x ((mem_cut (h.q c)).1 hx).1)
  cases hc : s.is c
  · right; rw [(h.out c hc).2]; rfl
  · exact .inl rfl
end Lg

theorem Kept.toGrown {w w' : World} {row : Option Nat} (h : Kept (fun k => row = some k) w w') : w.grownBy w' row := ⟨h.os, h.tape, h.output, h.size, fun k hk hne => h.block k hk (fun e => hne e.symm)⟩

section
variable {w w' : World} {b me mq N : Nat} {P : Int → Option Nat} {s : S}
/-- The queues turned, whatever else stays. -/
theorem LedAt.withQ (h : LedAt w b me mq P N s) {P' : Int → Option Nat} {N' : Nat} {s' : S} {X : Nat → Prop} (hk : Kept X w w') (hX : ∀ k, X k → k = mq ∨ (∃ c, P c = some k) ∨ w.heap.size ≤ k) (hm : MapV w' 3 keyI mq N' (queF P')) (h1 : ∀ c, P' c = none ↔ s'.Q c = []) (h2 : ∀ c o, P' c = some o → QAt w' o (s'.Q c)) (h3 : ∀ c d o, P' c = some o → P' d = some o → c = d) (h4 : ∀ c o, P' c = some o → P c = some o ∨ w.heap.size ≤ o)
    (hh : s'.h = s.h ∧ s'.R = s.R ∧ s'.C = s.C ∧ s'.E = s.E ∧ s'.T = s.T) (hN : N ≤ N') (hok : Lg.Ok s') : LedAt w' b me mq P' N' s' := by
  obtain ⟨e1, e2, e3, e4, e5⟩ := hh
  have nX : ∀ k, k < w.heap.size → k ≠ mq → (∀ c, P c ≠ some k) → ¬ X k := by
    intro k hk h1 h2 h3
    rcases hX k h3 with e | ⟨c, e⟩ | e
    · exact h1 e
    · exact h2 c e
    · omega
  have nb := nX b (blk_lt h.blk) h.b_mq (fun c e => (h.p_ne e).1 rfl)
  have nme := nX me h.ents.lt h.ne (fun c e => (h.p_ne e).2.1 rfl)
  have ng := nX _ h.af.lt (fun e => h.ng mq (.inr (.inr (.inl rfl))) e.symm) (fun c e => h.ng _ (.inr (.inr (.inr ⟨c, e⟩))) rfl)
  refine ⟨?_, ?_, hm, h1, h2, h3, h.ne, h.af.kept hk ng, fun k hk2 => ?_, hok⟩
  · rw [hk.block b (blk_lt h.blk) nb, h.blk]
    unfold lc
    rw [e1, e2, e3, e5]
  · rw [e4]; exact (h.ents.kept hk nme).mono hN
  · rcases hk2 with e | e | e | ⟨c, e⟩
    · exact h.ng k (.inl e)
    · exact h.ng k (.inr (.inl e))
    · exact h.ng k (.inr (.inr (.inl e)))
    · rcases h4 c k e with e | e
      · exact h.ng k (.inr (.inr (.inr ⟨c, e⟩)))
      · have := h.af.lt; omega
/-- What cut does: the queue's own step, and the entry's end if none waits. -/
def CutR (w w' : World) (mq : Nat) (p : Option Addr) (c : Int) (l : List Wt) : Prop :=
  ∃ W1, Kept (OfP p) w W1 ∧ QP W1 p l ∧ ((l ≠ [] ∧ w' = W1) ∨ (l = [] ∧ (Builtin.delete_ #[85, 3] 0 #[.map (some mq), .int .i64 c]).run Tryd.prog W1 = .ok (.tuple #[]) w'))
theorem LedAt.cut (h : LedAt w b me mq P N s) {c : Int} (hc : I64 c) {r : Int} (hr : CutR w w' mq ((P c).map fun o => ⟨o, 0, none⟩) c (cutL (s.Q c) r)) : StepL w w' b me mq P N (s.setQ c (cutL (s.Q c) r)) := by
  obtain ⟨W1, hk, hq, hr⟩ := hr
  have hof : ∀ k, OfP ((P c).map fun o => (⟨o, 0, none⟩ : Addr)) k → P c = some k := by
    rintro k ⟨o, ho, rfl⟩
    cases hP : P c with
    | none => rw [hP] at ho; cases ho
    | some o' => rw [hP] at ho; injection ho with ho; injection ho with ho; rw [ho]
  have hm1 : MapV W1 3 keyI mq N (queF P) := h.ques.kept hk (fun e => (h.p_ne (hof _ e)).2.2 rfl)
  rcases hr with ⟨hne, rfl⟩ | ⟨he, hrun⟩
  · refine ⟨P, N, h.withQ hk (fun k e => .inr (.inl ⟨c, hof k e⟩)) hm1 (fun d => ?_) (fun d o e => ?_) h.inj (fun _ _ e => .inl e) ⟨rfl, rfl, rfl, rfl, rfl⟩ (Nat.le_refl _) (h.ok.cut c r), Nat.le_refl _, fun _ _ e => .inl e, hk.mono (fun k _ e => .inr (.inr (.inr ⟨c, hof k e⟩)))⟩
    · show P d = none ↔ (if d = c then cutL (s.Q c) r else s.Q d) = []
      by_cases e : d = c
      · subst e
        rw [if_pos rfl]
        refine ⟨fun e => ?_, fun e => absurd e hne⟩
        rw [(h.none_ d).1 e, cutL_nil] at hne
        exact absurd rfl hne
      · rw [if_neg e]; exact h.none_ d
    · show QAt w' o (if d = c then cutL (s.Q c) r else s.Q d)
      by_cases e2 : d = c
      · subst e2
        rw [if_pos rfl]
        rw [e] at hq
        rcases hq with ⟨h1, _⟩ | ⟨o', h1, h2⟩
        · cases h1
        · injection h1 with h1; injection h1 with h1; rw [h1]; exact h2
      · rw [if_neg e2]
        refine (h.some_ d o e).kept hk (fun e3 => e2 (h.inj d c o e (hof o e3)))
  · obtain ⟨P', hP'⟩ : ∃ P' : Int → Option Nat, P' = fun d => if d = c then none else P d := ⟨_, rfl⟩
    have hPs : ∀ d o, P' d = some o → P d = some o ∧ d ≠ c := by
      intro d o e
      rw [hP'] at e
      dsimp only at e
      by_cases e2 : d = c
      · rw [if_pos e2] at e; cases e
      · rw [if_neg e2] at e; exact ⟨e, e2⟩
    obtain ⟨w2, hrun2, hm2, hk2⟩ := hm1.del (g := queF P') keyI_keyed Tryd.underlying85 (keyI_of hc) 0 (by rw [hP']; simp [queF]) (fun y hy => by have : y ≠ c := fun e => hy (by rw [e]); rw [hP']; simp [queF, this]) (fun y => keyI_inj)
    have hrun : Sem.run Tryd.prog (Builtin.delete_ #[85, 3] 0 #[.map (some mq), .int .i64 c]) W1 = _ := hrun
    obtain rfl : w' = w2 := by rw [hrun2] at hrun; injection hrun with _ e; exact e.symm
    have hk3 : Kept (fun k => OfP ((P c).map fun o => (⟨o, 0, none⟩ : Addr)) k ∨ k = mq) w w' := (hk.mono (fun _ _ e => .inl e)).trans hk2 (fun _ _ e => .inr e)
    refine ⟨P', N, h.withQ hk3 (fun k e => ?_) hm2 (fun d => ?_) (fun d o e => ?_) (fun d d' o e e' => h.inj d d' o (hPs d o e).1 (hPs d' o e').1) (fun d o e => .inl (hPs d o e).1) ⟨rfl, rfl, rfl, rfl, rfl⟩ (Nat.le_refl _) (h.ok.cut c r), Nat.le_refl _, fun d o e => .inl (hPs d o e).1, hk3.mono (fun k _ e => ?_)⟩
    · rcases e with e | e
      · exact .inr (.inl ⟨c, hof k e⟩)
      · exact .inl e
    · show P' d = none ↔ (if d = c then cutL (s.Q c) r else s.Q d) = []
      rw [hP']
      by_cases e : d = c
      · simp [e, he]
      · simp only [if_neg e]; exact h.none_ d
    · obtain ⟨e1, e2⟩ := hPs d o e
      show QAt w' o (if d = c then cutL (s.Q c) r else s.Q d)
      rw [if_neg e2]
      refine (h.some_ d o e1).kept hk3 (fun e3 => ?_)
      rcases e3 with e3 | e3
      · exact e2 (h.inj d c o e1 (hof o e3))
      · exact (h.p_ne e1).2.2 e3
    · rcases e with e | e
      · exact .inr (.inr (.inr ⟨c, hof k e⟩))
      · exact .inr (.inr (.inl e))
/-- The range under way goes on behind it. -/
theorem CutR.ranges {p : Option Addr} {c : Int} {l : List Wt} (h : CutR w w' mq p c l) (hc : I64 c) {rb n : Nat} {D : DataW Value} {left : Lit → Bool} {cnt : Nat} (hrg : w.ranges Tryd.prog 3 heldV mq rb n D left cnt) (h1 : ∀ k, OfP p k → k ≠ mq ∧ k ≠ rb) (hl : left (keyI c) = false) :
    ∃ D' cnt', w'.ranges Tryd.prog 3 heldV mq rb n D' left cnt' ∧ cnt' ≤ cnt := by
  obtain ⟨W1, hk, hq, hr⟩ := h
  have hg : ∃ row : Option Nat, w.grownBy W1 row ∧ some mq ≠ row ∧ some rb ≠ row := by
    cases p with
    | none =>
      refine ⟨none, Kept.toGrown (hk.mono (fun k _ e => ?_)), by simp, by simp⟩
      obtain ⟨o, e, _⟩ := e
      cases e
    | some a =>
      refine ⟨some a.block, Kept.toGrown (hk.mono (fun k _ e => ?_)), ?_⟩
      · obtain ⟨o, e, e2⟩ := e
        injection e with e; rw [e2, e]
      · rcases hq with ⟨e, _⟩ | ⟨o, e, _⟩
        · cases e
        · obtain ⟨q1, q2⟩ := h1 o ⟨o, e, rfl⟩
          injection e with e; rw [e]
          exact ⟨fun e => q1 (by simpa using e.symm), fun e => q2 (by simpa using e.symm)⟩
  obtain ⟨row, hg, n1, n2⟩ := hg
  have hrg1 := hrg.kept hg n1 n2
  rcases hr with ⟨_, rfl⟩ | ⟨_, hrun⟩
  · exact ⟨D, cnt, hrg1, Nat.le_refl _⟩
  · obtain ⟨w2, cnt2, hrun2, hrg2, hle, _⟩ := hrg1.drop keyI_keyed Tryd.underlying85 (keyI_of hc) 0
    have hrun : Sem.run Tryd.prog (Builtin.delete_ #[85, 3] 0 #[.map (some mq), .int .i64 c]) W1 = _ := hrun
    obtain rfl : w' = w2 := by rw [hrun2] at hrun; injection hrun with _ e; exact e.symm
    refine ⟨D.del (keyI c), cnt2, ?_, hle⟩
    have : (fun x : Lit => left x && !x.sameKey (keyI c)) = left := by
      funext x
      by_cases e : x.sameKey (keyI c) = true
      · have : x = keyI c := by
          cases x <;> simp [keyI, Lit.sameKey] at e ⊢
          exact e
        subst this
        rw [hl]; rfl
      · simp [e]
    rw [this] at hrg2
    exact hrg2
theorem cutq_any (h : LedAt w b me mq P N s) {c : Int} (hc : I64 c) (r : Int) :
    Calls Tryd.prog 65 #[.pointer (some ⟨b, 0, none⟩), .int .i64 c, .int .i64 r] w fun e w' => e = .returned (.tuple #[]) ∧ CutR w w' mq ((P c).map fun o => ⟨o, 0, none⟩) c (cutL (s.Q c) r) := by
  obtain ⟨R, hR⟩ : ∃ R : Ending → World → Prop, R = fun e w' => e = .returned (.tuple #[]) ∧ CutR w w' mq ((P c).map fun o => ⟨o, 0, none⟩) c (cutL (s.Q c) r) := ⟨_, rfl⟩
  have HR : Hid (∀ w', CutR w w' mq ((P c).map fun o => ⟨o, 0, none⟩) c (cutL (s.Q c) r) → R (.returned (.tuple #[])) w') := by rw [hR]; exact fun w' h1 => ⟨rfl, h1⟩
  rw [← hR]
  clear hR
  obtain ⟨c0, c1, c2, c3, c4⟩ := h.five
  have hl := h.lookQ hc
  have HC := Lib.hid (cut_any (h.qp c) r)
  have hof : ∀ k, OfP ((P c).map fun o => (⟨o, 0, none⟩ : Addr)) k → P c = some k := by
    rintro k ⟨o, ho, rfl⟩
    cases hP : P c with
    | none => rw [hP] at ho; cases ho
    | some o' => rw [hP] at ho; injection ho with ho; injection ho with ho; rw [ho]
  have HD : Hid (∀ W1, QP W1 ((P c).map fun o => ⟨o, 0, none⟩) (cutL (s.Q c) r) → Kept (OfP ((P c).map fun o => ⟨o, 0, none⟩)) w W1 → W1.cell? ⟨b, 4, none⟩ = some (.map (some mq)) ∧
      (cutL (s.Q c) r ≠ [] → R (.returned (.tuple #[])) W1) ∧ ∃ w2, (Builtin.delete_ #[85, 3] 0 #[.map (some mq), .int .i64 c]).run Tryd.prog W1 = .ok (.tuple #[]) w2 ∧ (cutL (s.Q c) r = [] → R (.returned (.tuple #[])) w2)) := by
    intro W1 hq hk
    have hm1 : MapV W1 3 keyI mq N (queF P) := h.ques.kept hk (fun e => (h.p_ne (hof _ e)).2.2 rfl)
    obtain ⟨w2, hrun2, _, _⟩ := hm1.del (g := fun x => if x = c then none else queF P x) keyI_keyed Tryd.underlying85 (keyI_of hc) 0 (by simp) (fun y hy => by have : y ≠ c := fun e => hy (by rw [e]); simp [this]) (fun y => keyI_inj)
    refine ⟨hk.cell c4 (fun e => (h.p_ne (hof _ e)).1 rfl), fun hne => HR.out _ ⟨W1, hk, hq, .inl ⟨hne, rfl⟩⟩, w2, hrun2, fun he => HR.out _ ⟨W1, hk, hq, .inr ⟨he, hrun2⟩⟩⟩
  clear h hof HR c0 c1 c2 c3
  generalize (P c).map (fun o => (⟨o, 0, none⟩ : Addr)) = p at *
  go_enter Tryd.func65, Tryd.ntmps65
  go_wp2_with fail
  refine HC.out.mono ?_
  rintro e W1 ⟨rfl, hq, hk⟩
  obtain ⟨c4', hy, w2, hrun, hn⟩ := HD.out W1 hq hk
  have HY := Lib.hid hy
  have HN := Lib.hid hn
  have HL := Lib.hid (qlen_any hq)
  clear HD HC hq hk hy hn hl c4
  generalize cutL (s.Q c) r = l at *
  go_wp2_with fail
  refine HL.out.mono ?_
  rintro e W2 ⟨rfl, rfl⟩
  cases l with
  | nil =>
    have HF := Lib.hid (HN.out rfl)
    clear HN HY HL
    go_wp2
    go_end0
    exact HF.out
  | cons x l =>
    have HF := Lib.hid (HY.out (by simp))
    have e0 : ((((x :: l).length : Nat) : Int) == 0) = false := by simp; omega
    clear HN HY HL
    generalize (x :: l).length = n at *
    go_wp2
    go_end0
    exact HF.out
theorem cut_led (h : LedAt w b me mq P N s) {c : Int} (hc : I64 c) (r : Int) :
    Calls Tryd.prog 65 #[.pointer (some ⟨b, 0, none⟩), .int .i64 c, .int .i64 r] w fun e w' => e = .returned (.tuple #[]) ∧ StepL w w' b me mq P N (s.setQ c (cutL (s.Q c) r)) := by
  refine (cutq_any h hc r).mono ?_
  rintro e w' ⟨rfl, h2⟩
  exact ⟨rfl, h.cut hc h2⟩

def leaveOn (s : S) (left : Lit → Bool) (r : Int) : S := { s with Q := fun c => if left (keyI c) then s.Q c else cutL (s.Q c) r }
set_option maxHeartbeats 1000000 in
theorem leave_any (h : LedAt w b me mq P N s) (r : Int) :
    Calls Tryd.prog 45 #[.pointer (some ⟨b, 0, none⟩), .int .i64 r] w fun e w' => e = .returned (.tuple #[]) ∧ StepL w w' b me mq P N (s.leave r) := by
  obtain ⟨R, hR⟩ : ∃ R : Ending → World → Prop, R = fun e w' => e = .returned (.tuple #[]) ∧ StepL w w' b me mq P N (s.leave r) := ⟨_, rfl⟩
  have HR : Hid (∀ w', StepL w w' b me mq P N (s.leave r) → R (.returned (.tuple #[])) w') := by rw [hR]; exact fun w' h1 => ⟨rfl, h1⟩
  rw [← hR]
  clear hR
  obtain ⟨c0, c1, c2, c3, c4⟩ := h.five
  obtain ⟨D, ho, hD1, hD2⟩ := h.ques
  have hD3 : leaveOn s (Maps.has D) r = s := by
    skip
    have : (fun c => if Maps.has D (keyI c) then s.Q c else cutL (s.Q c) r) = s.Q := by
      funext c
      have := (hD2 c).1
      cases hP : P c with
      | none =>
        unfold queF at this
        rw [hP] at this
        have h0 : Maps.has D (keyI c) = false := this
        rw [h0, (h.none_ c).1 hP]; rfl
      | some o =>
        unfold queF at this
        rw [hP] at this
        have h0 : Maps.has D (keyI c) = true := this
        rw [h0]; rfl
    unfold leaveOn
    rw [this]
  have HDD := Lib.hid hD3
  have HL := Lib.hid h
  have hlt : ∀ k, LX b me mq P k → k < w.heap.size := fun k hk => h.lt hk
  have HLT := Lib.hid hlt
  clear h hD1 hD2 hD3 hlt c0 c1 c2 c3
  go_enter Tryd.func45, Tryd.ntmps45
  go_wp2_with (first
    | (at_range; refine wpList_range_own _ rfl _ 85 rfl 3 117 keyI_keyed Tryd.underlying85 heldV mq N D rfl ho ?_; intro w0 hrg0 hg0 hs0)
    | go_in)
  go_frame
  go_loopw [4] (fun _ wr => ∃ (left : Lit → Bool) (cnt : Nat) (D1 : DataW Value) (P1 : Int → Option Nat) (N1 : Nat), wr.ranges Tryd.prog 3 heldV mq w.heap.size N D1 left cnt ∧ LedAt wr b me mq P1 N1 (leaveOn s left r) ∧ N1 ≤ N ∧ (∀ c k, P1 c = some k → P c = some k ∨ w0.heap.size ≤ k) ∧ Kept (fun k => LX b me mq P k ∨ k = w.heap.size) w0 wr) (fun _ wr => wr.rangeLeft mq w.heap.size)
  case atStart =>
    refine ⟨_, _, D, P, N, hrg0, ?_, Nat.le_refl _, fun _ _ e => .inl e, Kept.refl _ _⟩
    rw [HDD.out]
    exact HL.out.kept ((Kept.refl (fun _ => False) w).grown hg0 (fun k e => by cases e)) (fun _ _ => id) id
  case round =>
    obtain ⟨left, cnt, D1, P1, N1, hrg, hL, hN, hP, hK⟩ := hrel
    have hX : ∀ k, LX b me mq P1 k → k ≠ w.heap.size := by
      intro k hk
      rcases LX.grow hP hk with e | e
      · have := HLT.out k e; omega
      · omega
    go_wp2_with (first
      | (at_next; refine wpList_next_ranges _ rfl _ rfl 3 keyI_keyed heldV (Value.int .i64) id (fun key kl hkey => by obtain ⟨x, rfl, _⟩ := Maps.keyOf_int_inv Tryd.underlying3 hkey; exact ⟨x, rfl⟩) (fun v y h => ⟨v, rfl⟩) mq w.heap.size N _ _ _ rfl hrg ?_ ?_)
      | go_in)
    · intro hc0 hl0
      have he : leaveOn s left r = s.leave r := by unfold leaveOn S.leave; simp [hl0]
      rw [he] at hL
      have hk0 : Kept (LX b me mq P) w w0 := (Kept.refl _ w).grown hg0 (fun k e => by cases e)
      have HF := Lib.hid (HR.out _ ⟨P1, N1, hL, hN, fun c k e => (hP c k e).imp id (fun h => by omega), hk0.trans hK (fun k hk e => by
        rcases e with e | e
        · exact e
        · omega)⟩)
      clear hL hP hK hrg hrg0 hg0 hX ho
      go_wp2
      go_end0
      exact HF.out
    · intro x c kl y yp w2 cnt1 hkey hlx hv hat hrg1 hlt1 hg1 hs1 hen
      obtain ⟨x', ex, rfl, hwx⟩ := Maps.keyOf_int_inv Tryd.underlying3 hkey
      cases ex
      have hxi : I64 x := by
        have h1 : IntKind.i64.min = -9223372036854775808 := rfl
        have h2 : IntKind.i64.max = 9223372036854775807 := rfl
        simp only [Lit.wf, Bool.and_eq_true, decide_eq_true_eq, h1, h2] at hwx
        exact hwx
      have hk2 : Kept (fun k => k = w.heap.size) _ w2 := (Kept.refl _ _).grown hg1 (fun k e => by cases e; exact .inl rfl)
      have hL2 := hL.kept hk2 (fun k hk e => hX k hk e) (fun e => by have := hL.af.lt; have := HL.out.af.lt; omega)
      have hQx : (leaveOn s left r).Q x = s.Q x := by
        show (if left (keyI x) then s.Q x else cutL (s.Q x) r) = s.Q x
        rw [show left (keyI x) = true from hlx]; rfl
      have hst : (leaveOn s left r).setQ x (cutL (s.Q x) r) = leaveOn s (fun z => left z && !z.sameKey (keyI x)) r := by
        unfold leaveOn S.setQ
        congr 1
        funext d
        by_cases e : d = x
        · subst e
          simp [keyI, Lit.sameKey]
        · have : (keyI d).sameKey (keyI x) = false := by simp [keyI, Lit.sameKey, e]
          simp [e, this]
      have HC : Hid (Calls Tryd.prog 65 #[.pointer (some ⟨b, 0, none⟩), .int .i64 x, .int .i64 r] w2 fun e w' => e = .returned (.tuple #[]) ∧
          ∃ (left : Lit → Bool) (cnt2 : Nat) (D1 : DataW Value) (P1 : Int → Option Nat) (N1 : Nat), (w'.ranges Tryd.prog 3 heldV mq w.heap.size N D1 left cnt2 ∧ cnt2 ≤ cnt1) ∧ LedAt w' b me mq P1 N1 (leaveOn s left r) ∧ N1 ≤ N ∧ (∀ c k, P1 c = some k → P c = some k ∨ w0.heap.size ≤ k) ∧ Kept (fun k => LX b me mq P k ∨ k = w.heap.size) w0 w') := by
        refine (cutq_any hL2 hxi r).mono ?_
        rintro e w' ⟨rfl, hcr⟩
        rw [hQx] at hcr
        refine ⟨rfl, ?_⟩
        have hof : ∀ k, OfP ((P1 x).map fun o => (⟨o, 0, none⟩ : Addr)) k → P1 x = some k := by
          rintro k ⟨o, ho, rfl⟩
          cases hP : P1 x with
          | none => rw [hP] at ho; cases ho
          | some o' => rw [hP] at ho; injection ho with ho; injection ho with ho; rw [ho]
        obtain ⟨D2, cnt2, hrg2, hle⟩ := hcr.ranges hxi hrg1 (fun k hk => ⟨(hL2.p_ne (hof k hk)).2.2, hX k (.inr (.inr (.inr ⟨x, hof k hk⟩)))⟩) (by simp [keyI, Lit.sameKey])
        obtain ⟨P2, N2, q1, q2, q3, q4⟩ := hL2.cut hxi (r := r) (by rw [hQx]; exact hcr)
        rw [hQx, hst] at q1
        have hs02 := hk2.size
        refine ⟨_, cnt2, D2, P2, N2, ⟨hrg2, hle⟩, q1, by omega, fun c k e => ?_, (hK.trans hk2 (fun k _ e => .inr e)).trans q4 (fun k hk e => ?_)⟩
        · rcases q3 c k e with e | e
          · exact hP c k e
          · right; have := hK.size; omega
        · rcases LX.grow hP e with e | e
          · exact .inl e
          · omega
      have hm : ∀ (w' : World) (left : Lit → Bool) (cnt2 : Nat) (D1 : DataW Value), w'.ranges Tryd.prog 3 heldV mq w.heap.size N D1 left cnt2 → cnt2 ≤ cnt1 → w'.rangeLeft mq w.heap.size < cnt := fun _ _ _ _ h1 h2 => by rw [h1.left_eq]; omega
      have HM := Lib.hid hm
      have HB := Lib.hid hrg.left_eq
      clear hL hP hK hrg hrg0 hg0 hX ho hL2 hQx hst hk2 hrg1 hg1 hwx hkey hlx hv hat hm
      go_wp2_with fail
      refine HC.out.mono ?_
      rintro e w' ⟨rfl, left, cnt2, D1, P1, N1, ⟨q1, q2⟩, q3, q4, q5, q6⟩
      have HREL : Hid (∃ (left : Lit → Bool) (cnt : Nat) (D1 : DataW Value) (P1 : Int → Option Nat) (N1 : Nat), w'.ranges Tryd.prog 3 heldV mq w.heap.size N D1 left cnt ∧ LedAt w' b me mq P1 N1 (leaveOn s left r) ∧ N1 ≤ N ∧ (∀ c k, P1 c = some k → P c = some k ∨ w0.heap.size ≤ k) ∧ Kept (fun k => LX b me mq P k ∨ k = w.heap.size) w0 w') := ⟨left, cnt2, D1, P1, N1, q1, q3, q4, q5, q6⟩
      have HME := Lib.hid (HM.out _ _ _ _ q1 q2)
      clear q1 q2 q3 q4 q5 q6 HC HM
      go_wp2
      go_roundw
      case rel => exact HREL.out
      case measure => rw [HB.out]; exact HME.out
end
end Go.Proofs.YtlmbbnkdiokabaaDoor
