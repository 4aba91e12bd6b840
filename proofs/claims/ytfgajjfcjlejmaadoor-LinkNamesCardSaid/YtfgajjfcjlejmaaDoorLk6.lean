/-
  A link opens; what it knows; when its alarm rings; what it takes.
-/
import Derived.Test.YtfgajjfcjlejmaaDoorLk5
namespace Go.Proofs.YtfgajjfcjlejmaaDoor
set_option maxRecDepth 100000
set_option linter.unusedSimpArgs false
open Go Go.RowKit Wr
attribute [local go_sem] Oper.semAt_some

theorem LnkAt.setO {w w' : World} {T S : Nat → Prop} {o N : Nat} {s s' : Lk.S} (h : LnkAt w T S o N s) (hk : Kept (fun k => k = o) w w') (h1 : s'.opn = s.opn) (h2 : s'.erl = s.erl)
    (hb : ∀ v mb, w.heap[o]? = some (.cells (objL s v mb) 102 (0, 0)) → w'.heap[o]? = some (.cells (objL s' v mb) 102 (0, 0))) : LnkAt w' T S o N s' := by
  obtain ⟨⟨v, E, mb, a1, a2, a3, a4, a5, a6, a7⟩, hso, hst, hlt⟩ := h
  have hX : ∀ k, k = o → T k := fun k e => by rw [e]; exact hst _ hso
  exact ⟨⟨v, E, mb, by rw [h1]; exact a1, hb v mb a2, a3.kept hk hX (fun g hg => (a7 g hg).2.1), by rw [h2]; exact a4.kept hk hX a6, a5, a6, a7⟩, hso, hst, fun k hk' => Nat.lt_of_lt_of_le (hlt k hk') hk.size⟩
theorem StepL.setO {w w' : World} {T S : Nat → Prop} {o N : Nat} {s s' : Lk.S} (h : LnkAt w T S o N s) (hk : Kept (fun k => k = o) w w') (h1 : s'.opn = s.opn) (h2 : s'.erl = s.erl)
    (hb : ∀ v mb, w.heap[o]? = some (.cells (objL s v mb) 102 (0, 0)) → w'.heap[o]? = some (.cells (objL s' v mb) 102 (0, 0))) : StepL w T S o N s' w' := by
  have hn := h.setO hk h1 h2 hb
  exact ⟨hk.mono (fun k _ e => by rw [e]; exact h.so), S, hn.more (fun k _ h' => h'.elim id (h.st k)) (fun _ hk => .inr hk) (fun k h' => h'.elim (hn.lt k) (fun h' => hn.lt k (hn.st k h'))), fun _ h => h, fun _ h => .inl h⟩
theorem kO (w : World) (o j : Nat) (u : Value) : Kept (fun k => k = o) w (w.setCell ⟨o, j, none⟩ u) := (Kept.refl (fun k => k = o) w).setCell (p := ⟨o, j, none⟩) (.inl rfl) u
/-- The alarm turns. -/
theorem al_set {w : World} {o : Nat} {s : Lk.S} (on : Bool) (a : Nat) (t : Int) : Kept (fun k => k = o) w (((w.setCell ⟨o, 11, none⟩ (.bool on)).setCell ⟨o, 12, none⟩ (.int .u64 (a : Nat))).setCell ⟨o, 13, none⟩ (.int .i64 t)) ∧
    ∀ v mb, w.heap[o]? = some (.cells (objL s v mb) 102 (0, 0)) → (((w.setCell ⟨o, 11, none⟩ (.bool on)).setCell ⟨o, 12, none⟩ (.int .u64 (a : Nat))).setCell ⟨o, 13, none⟩ (.int .i64 t)).heap[o]? = some (.cells (objL { s with on := on, at_ := a, tr := t } v mb) 102 (0, 0)) := by
  refine ⟨((kO w o 11 _).trans (kO _ o 12 _) (fun _ _ h => h)).trans (kO _ o 13 _) (fun _ _ h => h), fun v mb h => ?_⟩
  have h3 := blk_set (blk_set (blk_set h 11 (.bool on)) 12 (.int .u64 (a : Nat))) 13 (.int .i64 t)
  exact h3
theorem StepL.al {w : World} {T S : Nat → Prop} {o N : Nat} {s : Lk.S} (h : LnkAt w T S o N s) (on : Bool) (a : Nat) (t : Int) : StepL w T S o N { s with on := on, at_ := a, tr := t } (((w.setCell ⟨o, 11, none⟩ (.bool on)).setCell ⟨o, 12, none⟩ (.int .u64 (a : Nat))).setCell ⟨o, 13, none⟩ (.int .i64 t)) :=
  StepL.setO h (al_set (s := s) on a t).1 rfl rfl (al_set on a t).2

/-- A link has turned, and packets are told. -/
def StepB (w : World) (T S : Nat → Prop) (o N : Nat) (s : Lk.S) (w' : World) (v : Value) (L : List Pkt) : Prop :=
  Kept S w w' ∧ ∃ S', LnkAt w' (fun k => T k ∨ S' k) S' o N s ∧ (∀ k, S k → S' k) ∧ (∀ k, S' k → S k ∨ w.heap.size ≤ k) ∧ PktsR w' (fun k => T k ∨ S' k) w.heap.size v L
theorem StepL.bare {w w1 w2 : World} {T S : Nat → Prop} {o N : Nat} {s : Lk.S} {v : Value} {L : List Pkt} (h : StepL w T S o N s w1) (hb : Below w1.heap.size w1 w2) (hp : ∀ T' : Nat → Prop, (∀ k, T' k → k < w1.heap.size) → PktsR w2 T' w1.heap.size v L) : StepB w T S o N s w2 v L := by
  obtain ⟨h1, S', h2, h3, h4⟩ := h
  exact ⟨h1.trans (Kept.of_below (X := fun _ => False) hb (Nat.le_refl _)) (fun _ _ h => h.elim), S', h2.below hb, h3, h4, (hp _ h2.lt).base h1.size⟩
theorem StepL.nopk {w w1 : World} {T S : Nat → Prop} {o N : Nat} {s : Lk.S} (h : StepL w T S o N s w1) : StepB w T S o N s w1 (.slice none 0 0) [] := by
  obtain ⟨h1, S', h2, h3, h4⟩ := h
  exact ⟨h1, S', h2, h3, h4, PktsR.nil _ _ _⟩

set_option maxHeartbeats 1000000 in
theorem open_any {w : World} {T S : Nat → Prop} {o N : Nat} {s : Lk.S} (h : LnkAt w T S o N s) (hO : Lk.Ok s) {n : Nat} (hn : n ≤ topT) :
    Calls Tryd.prog 12 #[.pointer (some ⟨o, 0, none⟩), .int .u64 (n : Nat)] w fun e w' => ∃ v, e = .returned v ∧ StepB w T S o N (Lk.openS s n) w' v (Lk.openL s) := by
  obtain ⟨P, hP⟩ : ∃ P : Ending → World → Prop, P = fun e w' => ∃ v, e = .returned v ∧ StepB w T S o N (Lk.openS s n) w' v (Lk.openL s) := ⟨_, rfl⟩
  have HP : Hid (∀ v w', StepB w T S o N (Lk.openS s n) w' v (Lk.openL s) → P (.returned v) w') := by rw [hP]; exact fun v w' h => ⟨v, rfl, h⟩
  rw [← hP]
  clear hP
  have hrl : okR s.b s.c = true := hO.rl
  have HM := Lib.hid (made_any h hO.ep1)
  obtain ⟨c0, c1, c2, c3, c4, c5, _⟩ := h.cells
  unfold Lk.openS Lk.openL at HP
  by_cases hk : s.kn = 0
  · rw [if_pos hk, if_pos hk] at HP
    have HST : Hid (∀ W, Calls Tryd.prog 36 #[ruV s.b s.c, .int .u64 (n : Nat)] W fun e w' => e = .returned (alV true (beh n s.b) 0) ∧ Below W.heap.size W w') := fun W => start_any W hrl hn
    have HFR : Hid (∀ W, Below w.heap.size w W → ((W.cell? ⟨o, 11, none⟩ = some (.bool s.on) ∧ W.cell? ⟨o, 12, none⟩ = some (.int .u64 (s.at_ : Nat)) ∧ W.cell? ⟨o, 13, none⟩ = some (.int .i64 s.tr)) ∧ W.frozen? ⟨o, 11, none⟩ = false ∧ W.frozen? ⟨o, 12, none⟩ = false ∧ W.frozen? ⟨o, 13, none⟩ = false) ∧ StepL w T S o N (Lk.start s n) (((W.setCell ⟨o, 11, none⟩ (.bool true)).setCell ⟨o, 12, none⟩ (.int .u64 (beh n s.b : Nat))).setCell ⟨o, 13, none⟩ (.int .i64 0))) := by
      intro W hW
      have h' := h.below hW
      obtain ⟨_, _, _, _, _, _, _, d1, d2, d3⟩ := h'.cells
      exact ⟨⟨⟨d1, d2, d3⟩, h'.free 11, h'.free 12, h'.free 13⟩, StepL.pre hW (StepL.al h' true (beh n s.b) 0)⟩
    have HBA : Hid (∀ W, StepL w T S o N (Lk.start s n) W → Calls Tryd.prog 37 #[.pointer (some ⟨o, 0, none⟩), .int .i64 9] W fun e w' => ∃ v, e = .returned v ∧ P (.returned v) w') := by
      intro W hW
      obtain ⟨S', hS'⟩ := hW.2
      refine (bare_any hS'.1 9).mono ?_
      rintro e w' ⟨v, rfl, hb, hp⟩
      exact ⟨v, rfl, HP.out v w' (hW.bare hb hp)⟩
    have hkn : ((s.kn : Int) == 0) = true := by rw [hk]; rfl
    rw [hk] at c3
    clear h hO hn hrl HP hk c0 c1 c2
    generalize beh n s.b = q at *
    go_enter Tryd.func12, Tryd.ntmps12
    go_wp2_with fail
    refine HM.out.mono ?_
    rintro e w1 ⟨rfl, hw1⟩
    rw [hw1]
    clear hw1
    go_wp2_with fail
    refine (HST.out _).mono ?_
    rintro e w2 ⟨rfl, hb2⟩
    obtain ⟨⟨⟨d1, d2, d3⟩, f1, f2, f3⟩, hst⟩ := HFR.out _ hb2
    have HS := Lib.hid hst
    clear hst hb2 c3 c4 c5 HFR
    go_wp2_with fail
    refine (HBA.out _ HS.out).mono ?_
    rintro e w3 ⟨v, rfl, hp⟩
    have HF := Lib.hid hp
    clear hp
    go_wp2
    exact HF.out
  · rw [if_neg hk, if_neg hk] at HP
    have hkn : ((s.kn : Int) == 0) = false := by
      have : ¬ (s.kn : Int) = 0 := by omega
      simpa using this
    have HF := Lib.hid (HP.out _ _ (StepL.still h (Below.refl _ w)).nopk)
    have hkn2 : ((s.kn : Int) != 0) = true := by simp [bne, hkn]
    clear h hO hn hrl HP hk
    generalize s.kn = kn at *
    go_enter Tryd.func12, Tryd.ntmps12
    go_wp2_with fail
    refine HM.out.mono ?_
    rintro e w1 ⟨rfl, hw1⟩
    rw [hw1]
    clear hw1
    go_wp2
    exact HF.out

theorem known_any {w : World} {T S : Nat → Prop} {o N : Nat} {s : Lk.S} (h : LnkAt w T S o N s) (he : 1 ≤ s.ep) : Calls Tryd.prog 23 #[.pointer (some ⟨o, 0, none⟩)] w fun e w' => e = .returned (.int .u32 (s.kn : Nat)) ∧ w' = w := by
  have HM := Lib.hid (made_any h he)
  obtain ⟨c0, c1, c2, c3, _⟩ := h.cells
  clear h he
  go_enter Tryd.func23, Tryd.ntmps23
  go_wp2_with (refine HM.out.mono ?_; rintro e w1 ⟨rfl, hw1⟩; rw [hw1]; clear hw1)
  go_ret
  exact ⟨rfl, rfl⟩
theorem known_none (w : World) : Calls Tryd.prog 23 #[.pointer none] w fun e w' => e = .returned (.int .u32 0) ∧ w' = w := by
  go_enter Tryd.func23, Tryd.ntmps23
  go_wp2_with (refine (made_none _).mono ?_; rintro e w1 ⟨rfl, hw1⟩; rw [hw1]; clear hw1)
  go_ret
  exact ⟨rfl, rfl⟩
/-- When the alarm rings: drawn loads. -/
theorem lrings_any {w : World} {T S : Nat → Prop} {o N : Nat} {s : Lk.S} (h : LnkAt w T S o N s) (he : 1 ≤ s.ep) : Calls Tryd.prog 22 #[.pointer (some ⟨o, 0, none⟩)] w fun e w' => e = .returned (.tuple #[.int .u64 (s.at_ : Nat), .bool s.on]) ∧ Below w.heap.size w w' := by
  have HM := Lib.hid (made_any h he)
  obtain ⟨_, _, _, _, _, _, _, c1, c2, _⟩ := h.cells
  have HB : Hid (∀ k, Below w.heap.size w (w.drewN k)) := fun k => ⟨rfl, rfl, rfl, Nat.le_refl _, fun _ _ => rfl⟩
  clear h he
  go_enter Tryd.func22, Tryd.ntmps22
  go_wp2_with fail
  refine HM.out.mono ?_
  rintro e w1 ⟨rfl, hw1⟩
  rw [hw1]
  clear hw1
  go_wp2_with fail
  go_quiet (fail)
  go_wp2
  refine bodyPost_ret (v := .tuple #[.int .u64 (s.at_ : Nat), .bool s.on]) (by simp [results, Tryd.results22, go_sem]) rfl ⟨rfl, HB.out _⟩
/-- The last number that was acknowledged. -/
theorem ackd_any {w : World} {T S : Nat → Prop} {o N : Nat} {s : Lk.S} (h : LnkAt w T S o N s) (hO : Lk.Ok s) : Calls Tryd.prog 55 #[.pointer (some ⟨o, 6, none⟩)] w fun e w' => e = .returned (.int .u32 (Lk.ackd s : Nat)) ∧ ∃ k, w' = w.drewN k := by
  obtain ⟨_, _, _, _, _, _, c6, _⟩ := h.cells
  obtain ⟨A, cap, c7, _⟩ := h.lst
  have h1 := hO.ol
  have h2 := hO.os
  have h3 := hO.st
  have w1 : IntKind.u32.wrap (s.opn.length : Int) = (s.opn.length : Int) := u32_in (by omega) (by omega)
  have w2 : IntKind.u32.wrap ((s.sent : Int) - (s.opn.length : Int)) = (Lk.ackd s : Int) := by unfold Lk.ackd; rw [u32_in (by omega) (by omega)]; omega
  generalize Lk.ackd s = q at *
  clear h hO h1 h2 h3
  generalize s.opn.length = L at *
  go_enter Tryd.func55, Tryd.ntmps55
  go_wp2_with fail
  go_quiet (fail)
  go_wp2
  go_ret
  exact ⟨rfl, _, rfl⟩
end Go.Proofs.YtfgajjfcjlejmaaDoor
