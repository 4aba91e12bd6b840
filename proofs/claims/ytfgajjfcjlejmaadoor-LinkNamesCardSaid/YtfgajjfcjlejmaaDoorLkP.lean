/- Joined texts: LkO, LkP. -/
import Derived.Test.YtfgajjfcjlejmaaDoorLkI

/-
  The messages that were not acknowledged.
-/
namespace Go.Proofs.YtfgajjfcjlejmaaDoor
set_option maxRecDepth 100000
set_option linter.unusedSimpArgs false
open Go Go.RowKit Wr
attribute [local go_sem] Oper.semAt_some

/-- Nine cells from a place on. -/
def MsgCells (W : World) (g i : Nat) (m : Msg) (A : Option Addr) (cap : Nat) : Prop :=
  W.cell? ⟨g, i, none⟩ = some (.int .i64 m.kind) ∧ W.cell? ⟨g, i + 1, none⟩ = some (.int .i64 m.cell) ∧ W.cell? ⟨g, i + 2, none⟩ = some (.int .u32 (m.gen : Nat)) ∧ W.cell? ⟨g, i + 3, none⟩ = some (.int .u64 (m.stamp : Nat)) ∧ W.cell? ⟨g, i + 4, none⟩ = some (.int .i64 m.prio) ∧ W.cell? ⟨g, i + 5, none⟩ = some (.int .i64 m.hops) ∧ W.cell? ⟨g, i + 6, none⟩ = some (.int .i64 m.origin) ∧ W.cell? ⟨g, i + 7, none⟩ = some (.int .i64 m.other) ∧ W.cell? ⟨g, i + 8, none⟩ = some (.slice A m.claims.length cap)
theorem row_msg {W : World} {base : Nat} {v : Value} {E : List En} (hr : W.ownsRow base 37 9 v E.length (csM E)) {k : Nat} (hk : k < E.length) : ∃ g cap, v = .slice (some ⟨g, 0, none⟩) E.length cap ∧ MsgCells W g (k * 9) (E.getD k noEn).1 (E.getD k noEn).2.1 (E.getD k noEn).2.2 := by
  rcases hr.2 with ⟨_, h0⟩ | ⟨g, cap, cur, e, _⟩
  · omega
  · subst e
    have q := fun j (hj : j < 9) => (hr.cellAt (k * 9 + j) (by omega)).trans (csM_get hk hj)
    exact ⟨g, cap, rfl, q 0 (by omega), q 1 (by omega), q 2 (by omega), q 3 (by omega), q 4 (by omega), q 5 (by omega), q 6 (by omega), q 7 (by omega), q 8 (by omega)⟩
theorem enD {E : List En} {l : List Msg} (h : E.map (·.1) = l) {k : Nat} (hk : k < E.length) : (E.getD k noEn).1 = l.getD k default ∧ E.getD k noEn ∈ E := by
  subst h
  rw [List.getD_eq_getElem?_getD, List.getElem?_eq_getElem hk]
  refine ⟨?_, List.getElem_mem hk⟩
  simp [List.getD_eq_getElem?_getD, hk]
/-- The list, as it is read. -/
theorem LnkAt.elems {w : World} {T S : Nat → Prop} {o N : Nat} {s : Lk.S} (h : LnkAt w T S o N s) : ∃ A cap, (∀ W, Below w.heap.size w W → W.cell? ⟨o, 7, none⟩ = some (.slice A s.opn.length cap)) ∧
    ∀ k, k < s.opn.length → ∃ g Ak ck, A = some ⟨g, 0, none⟩ ∧ ∀ W, Below w.heap.size w W → MsgCells W g (k * 9) (s.opn.getD k default) Ak ck ∧ ClT W T Ak (s.opn.getD k default).claims ck := by
  obtain ⟨⟨v, E, mb, h1, h2, h3, _⟩, hso, hst, hlt⟩ := h
  have hlen : E.length = s.opn.length := by rw [← h1]; simp
  have hol := hlt _ (hst _ hso)
  obtain ⟨A, cap, hv⟩ : ∃ A cap, v = .slice A E.length cap := by
    rcases h3.row.2 with ⟨e, h0⟩ | ⟨g, cap, cur, e, _⟩
    · exact ⟨none, 0, by rw [h0]; exact e⟩
    · exact ⟨_, cap, e⟩
  refine ⟨A, cap, fun W hW => by rw [blk_cell ((hW.block _ hol).trans h2), ← hlen, ← hv]; rfl, fun k hk => ?_⟩
  rw [← hlen] at hk
  obtain ⟨d1, d2⟩ := enD h1 hk
  obtain ⟨g, c2, e, _⟩ := row_msg h3.row hk
  rw [hv] at e
  injection e with e1 _ e3
  refine ⟨g, (E.getD k noEn).2.1, (E.getD k noEn).2.2, e1, fun W hW => ?_⟩
  rw [← d1]
  obtain ⟨g', c', e', hm⟩ := row_msg (owns_below h3.row hW (Nat.le_refl _)) hk
  rw [hv, e1] at e'
  injection e' with e4 _ _
  injection e4 with e4
  injection e4 with e4
  subst e4
  exact ⟨hm, (h3.cl _ d2).below hW⟩

/-- What is gathered. -/
def WtI (w : World) (l : List Msg) (k : Nat) (v : Value) (W : World) : Prop :=
  Below w.heap.size w W ∧ ∃ E : List En, E.map (·.1) = l.take k ∧ W.ownsRow w.heap.size 37 9 v E.length (csM E) ∧ ∀ e ∈ E, W.ownsRow w.heap.size 138 2 (En.v e) e.1.claims.length (csC e.1.claims)
theorem row_ne {W : World} {B B' : Nat} {t t' : TypeId} {z z' : Nat} {v v' : Value} {n n' : Nat} {xs xs' : List Value} (h : W.ownsRow B t z v n xs) (h' : W.ownsRow B' t' z' v' n' xs') (hn : t ≠ t') : ∀ g, v.ownBlock = some g → ¬ v'.ownBlock = some g := by
  intro g h1 h2
  rcases h.2 with ⟨e, _⟩ | ⟨g1, c1, u1, e, _, a1, _⟩
  · rw [e] at h1; cases h1
  · rcases h'.2 with ⟨e', _⟩ | ⟨g2, c2, u2, e', _, a2, _⟩
    · rw [e'] at h2; cases h2
    · rw [e] at h1; rw [e'] at h2
      simp [Value.ownBlock] at h1 h2
      subst h1 h2
      rw [a1] at a2
      simp at a2
      exact hn a2.2

set_option maxHeartbeats 4000000 in
theorem waiting_any {w : World} {T S : Nat → Prop} {o N : Nat} {s : Lk.S} (h : LnkAt w T S o N s) (hO : Lk.Ok s) :
    Calls Tryd.prog 24 #[.pointer (some ⟨o, 0, none⟩)] w fun e w' => ∃ v, e = .returned v ∧ Below w.heap.size w w' ∧ ∀ T' : Nat → Prop, (∀ k, T' k → k < w.heap.size) → MsgsR w' T' w.heap.size v s.opn := by
  obtain ⟨P, hP⟩ : ∃ P : Ending → World → Prop, P = fun e w' => ∃ v, e = .returned v ∧ Below w.heap.size w w' ∧ ∀ T' : Nat → Prop, (∀ k, T' k → k < w.heap.size) → MsgsR w' T' w.heap.size v s.opn := ⟨_, rfl⟩
  obtain ⟨i0, hi, hz0, hz1, hz2⟩ := info_parts Tryd.infoMsg
  have HQ : Hid (∀ v W, WtI w s.opn s.opn.length v W → P (.returned v) W) := by
    rw [hP]
    rintro v W ⟨a1, E, a2, a3, a4⟩
    refine ⟨v, rfl, a1, fun T' hT' => ⟨E, by rw [a2, List.take_length], a3, fun e he => ?_⟩⟩
    obtain ⟨A', c', e1, hh⟩ := row_claims (a4 e he)
    unfold En.v at e1
    injection e1 with e1 _ e3
    rw [e1, e3]
    exact hh T' hT'
  rw [← hP]
  clear hP
  have HM := Lib.hid (made_any h hO.ep1)
  obtain ⟨A, cap, hc, hel⟩ := h.elems
  have c7 := hc w (Below.refl _ w)
  have hOm := hO.om
  have hol := hO.ol
  have HEL : Hid (∀ k, k < s.opn.length → ∃ g Ak ck, A = some ⟨g, 0, none⟩ ∧ ∀ W, Below w.heap.size w W → MsgCells W g (k * 9) (s.opn.getD k default) Ak ck ∧ ∀ x, Calls Tryd.prog 42 #[msgA (s.opn.getD k default) Ak (s.opn.getD k default).claims.length ck] (W.alloc x) fun e w' => ∃ A' cap', e = .returned (msgA (s.opn.getD k default) A' (s.opn.getD k default).claims.length cap') ∧ Below W.heap.size W w' ∧ w'.ownsRow W.heap.size 138 2 (.slice A' (s.opn.getD k default).claims.length cap') (s.opn.getD k default).claims.length (csC (s.opn.getD k default).claims)) := by
    intro k hk
    obtain ⟨g, Ak, ck, e, hh⟩ := hel k hk
    refine ⟨g, Ak, ck, e, fun W hW => ⟨(hh W hW).1, fun x => ?_⟩⟩
    have hm : s.opn.getD k default ∈ s.opn := by rw [List.getD_eq_getElem?_getD, List.getElem?_eq_getElem hk]; exact List.getElem_mem hk
    have hb : Below W.heap.size W (W.alloc x) := (Below.refl _ W).alloc (Nat.le_refl _) x
    refine (mlike_any _ ((hh W hW).2.below hb) (by have := (hOm _ hm).2.2.2.2; omega)).mono ?_
    rintro e w' ⟨A', cap', rfl, a1, a2⟩
    exact ⟨A', cap', rfl, hb.trans (a2.mono hb.size), rowB a1 hb.size⟩
  have HPU : Hid (∀ k v W W1 x W3 A' cap' v', k < s.opn.length → WtI w s.opn k v W → Below W.heap.size W W1 → W1.ownsRow W.heap.size 138 2 (.slice A' (s.opn.getD k default).claims.length cap') (s.opn.getD k default).claims.length (csC (s.opn.getD k default).claims) → (W1.alloc x).grownBy W3 v.ownBlock → ∀ E : List En, E.map (·.1) = s.opn.take k → W.ownsRow w.heap.size 37 9 v E.length (csM E) → (∀ e ∈ E, W.ownsRow w.heap.size 138 2 (En.v e) e.1.claims.length (csC e.1.claims)) → W3.ownsRow w.heap.size 37 9 v' (E.length + 1) (csM E ++ msC (s.opn.getD k default) (.slice A' (s.opn.getD k default).claims.length cap')) → WtI w s.opn (k + 1) v' W3) := by
    intro k v W W1 x W3 A' cap' v' hk hI hb1 hr1 hg E hmE hrE hcl hr3
    have hbx : Below W.heap.size W (W1.alloc x) := hb1.alloc hb1.size x
    have hkv : ∀ g, v.ownBlock = some g → w.heap.size ≤ g := fun g e => (hrE.lt g e).1
    have hkx : Kept (fun k => v.ownBlock = some k) W (W1.alloc x) := Kept.of_below hbx (Nat.le_refl _)
    have hk3 : Kept (fun k => v.ownBlock = some k) (W1.alloc x) W3 := (Kept.refl (fun k => v.ownBlock = some k) _).grown hg (fun k e => .inl e)
    have hrEx : (W1.alloc x).ownsRow w.heap.size 37 9 v E.length (csM E) := owns_below hrE hbx (Nat.le_refl _)
    refine ⟨(hI.1.trans (hbx.mono hI.1.size)).trans (hk3.below (fun k e => hkv k e) (Nat.le_trans hI.1.size hbx.size)), E ++ [(s.opn.getD k default, A', cap')], ?_, ?_, fun e he => ?_⟩
    · rw [List.map_append, hmE, List.take_add_one, List.getElem?_eq_getElem hk]
      simp [List.getD_eq_getElem?_getD, List.getElem?_eq_getElem hk]
    · rw [csM_append, List.length_append]
      have : csM [(s.opn.getD k default, A', cap')] = msC (s.opn.getD k default) (.slice A' (s.opn.getD k default).claims.length cap') := by simp [csM, En.v]
      rw [this]
      exact hr3
    · rcases List.mem_append.1 he with he | he
      · have h1 := owns_below (hcl e he) hbx (Nat.le_refl _)
        exact hk3.row h1 (row_ne h1 hrEx (by decide))
      · rw [List.mem_singleton] at he; subst he
        have h1 := owns_below (rowB hr1 hI.1.size) ((Below.refl _ W1).alloc (Nat.le_refl _) x) (Nat.le_refl _)
        exact hk3.row h1 (row_ne h1 hrEx (by decide))
  have HPW : Hid (∀ k v W, WtI w s.opn k v W → k ≤ s.opn.length → ∃ E : List En, E.length = k ∧ E.map (·.1) = s.opn.take k ∧ Below w.heap.size w W ∧ W.ownsRow w.heap.size 37 9 v E.length (csM E) ∧ (∀ e ∈ E, W.ownsRow w.heap.size 138 2 (En.v e) e.1.claims.length (csC e.1.claims)) ∧ w.heap.size ≤ W.heap.size) := by
    rintro k v W ⟨a1, E, a2, a3, a4⟩ hk
    have hl := congrArg List.length a2
    simp at hl
    exact ⟨E, by omega, a2, a1, a3, a4, a1.size⟩
  have HI0 : Hid (WtI w s.opn 0 (.slice none 0 0) w) := ⟨Below.refl _ _, [], by simp, World.ownsRow_nil _ _ _ _, fun e he => by cases he⟩
  clear h hO hc hel hOm
  generalize s.opn = l at *
  obtain ⟨L, hL⟩ : ∃ L, L = l.length := ⟨_, rfl⟩
  rw [← hL] at HQ HEL HPU HPW hol c7
  clear hL
  go_enter Tryd.func24, Tryd.ntmps24
  go_wp2_with fail
  refine HM.out.mono ?_
  rintro e w1 ⟨rfl, hw1⟩
  rw [hw1]
  clear hw1
  go_wp2
  go_loopw [3, 15] (fun v i wr => ∃ k : Nat, k ≤ L ∧ i = .int .i64 (k : Int) ∧ WtI w l k v wr) (fun _ i _ => L - (intOf i).toNat)
  case atStart => exact ⟨0, Nat.zero_le _, rfl, HI0.out⟩
  case round =>
    obtain ⟨k, hk, rfl, hI⟩ := hrel
    rename World => W
    have HIk := Lib.hid hI
    by_cases hlt : k < L
    · obtain ⟨E, hE1, hE2, hE3, hE4, hE5, hE6⟩ := HPW.out k u3 W HIk.out hk
      obtain ⟨g, Ak, ck, rfl, hh⟩ := HEL.out k hlt
      obtain ⟨⟨q0, q1, q2, q3, q4, q5, q6, q7, q8⟩, hli⟩ := hh W hE3
      have HLI := Lib.hid hli
      have HOW : Hid (∀ w2 x, Below W.heap.size W w2 → (w2.alloc x).ownsRow w.heap.size 37 9 u3 E.length (csM E)) := fun w2 x hb => owns_below hE4 (hb.alloc hb.size x) (Nat.le_refl _)
      have HPX : Hid (∀ w2 x w3 A' cap' v', Below W.heap.size W w2 → w2.ownsRow W.heap.size 138 2 (.slice A' (l.getD k default).claims.length cap') (l.getD k default).claims.length (csC (l.getD k default).claims) → (w2.alloc x).grownBy w3 u3.ownBlock → w3.ownsRow w.heap.size 37 9 v' (E.length + 1) (csM E ++ msC (l.getD k default) (.slice A' (l.getD k default).claims.length cap')) → ∃ k' : Nat, k' ≤ L ∧ (Value.int .i64 ((k : Int) + 1)) = .int .i64 (k' : Int) ∧ WtI w l k' v' w3) := fun w2 x w3 A' cap' v' a1 a2 a3 a4 => ⟨k + 1, hlt, by push_cast; rfl, HPU.out k u3 W w2 x w3 A' cap' v' hlt HIk.out a1 a2 a3 E hE2 hE4 hE5 a4⟩
      have hEl : E.length ≤ 16 := by omega
      have hws : ∀ w2 : World, Below W.heap.size W w2 → w.heap.size ≤ w2.heap.size := fun w2 hb => Nat.le_trans hE6 hb.size
      have HWS := Lib.hid hws
      have hkw : IntKind.i64.wrap ((k : Int) + 1) = (k : Int) + 1 := IntWalk.i64_in _ (by omega)
      have HLT := Lib.hid hlt
      clear hli hh HPW HEL HPU hE1 hE2 hE3 hE4 hE5 hE6 hI HIk HQ HI0 hws
      generalize hm : l.getD k default = m at *
      clear hm
      obtain ⟨x0, x1, x2, x3, x4, x5, x6, x7, x8⟩ := m
      simp only [msgA, msC] at HLI HPX q0 q1 q2 q3 q4 q5 q6 q7 q8
      generalize csC x8 = ys at *
      generalize x8.length = Lc at *
      generalize E.length = NE at *
      generalize csM E = xs at *
      have hlt2 : k < L := hlt
      go_wp2_with (first
        | ((with_reducible refine (HLI.out _).mono ?_); rintro e w2 ⟨A', cap', rfl, hb2, hr2⟩; have HB2 := Lib.hid hb2; have HR2 := Lib.hid hr2; clear hb2 hr2)
        | (at_builtin; refine wpList_append_own _ rfl _ _ 50 rfl w.heap.size 37 i0 zeroMsg 9 88 Tryd.underlying50 hi hz0 hz1 hz2 rfl (by decide) _ NE xs rfl (HOW.out _ _ HB2.out) ⟨w2.heap.size, 0, none⟩ 1 1 [.int .i64 x0, .int .i64 x1, .int .u32 (x2 : Nat), .int .u64 (x3 : Nat), .int .i64 x4, .int .i64 x5, .int .i64 x6, .int .i64 x7, .slice A' Lc cap'] rfl ?qc1 ?qc2 ?qc3 ?qc4 ?qc5 ?qc6 ?_))
      case qc1 => rfl
      case qc2 => exact World.news_of_block (heap_alloc_new w2 _)
      case qc3 => intro u hu; simp at hu; rcases hu with rfl | rfl | rfl | rfl | rfl | rfl | rfl | rfl | rfl <;> rfl
      case qc4 => unfold maxLen; omega
      case qc5 => omega
      case qc6 => simp only [World.size_alloc]; have := HWS.out _ HB2.out; omega
      intro v' w3 hown hgrow _
      have HF := Lib.hid (HPX.out _ _ _ _ _ _ HB2.out HR2.out hgrow hown)
      clear hown hgrow
      go_wp2
      exact ⟨HF.out, by simp only [intOf]; have := HLT.out; omega⟩
    · obtain rfl : k = L := by omega
      have HF := Lib.hid (HQ.out u3 W HIk.out)
      clear hI HIk
      go_wp2
      exact HF.out
end Go.Proofs.YtfgajjfcjlejmaaDoor

/-
  Tick, where nothing rings, or a Hello goes out.
-/
namespace Go.Proofs.YtfgajjfcjlejmaaDoor
set_option maxRecDepth 100000
set_option linter.unusedSimpArgs false
open Go Go.RowKit Wr
attribute [local go_sem] Oper.semAt_some

set_option maxHeartbeats 8000000 in
theorem tick_no {w : World} {T S : Nat → Prop} {o N : Nat} {s : Lk.S} (h : LnkAt w T S o N s) (hO : Lk.Ok s) {n : Nat} (_hn : n ≤ topT) (hr : Lk.rings s n = false) :
    Calls Tryd.prog 20 #[.pointer (some ⟨o, 0, none⟩), .int .u64 (n : Nat)] w fun e w' => ∃ v, e = .returned v ∧ StepB w T S o N (Lk.tickS s n) w' v (Lk.tickL s n) := by
  obtain ⟨P, hP⟩ : ∃ P : Ending → World → Prop, P = fun e w' => ∃ v, e = .returned v ∧ StepB w T S o N (Lk.tickS s n) w' v (Lk.tickL s n) := ⟨_, rfl⟩
  have HP : Hid (∀ v w', StepB w T S o N (Lk.tickS s n) w' v (Lk.tickL s n) → P (.returned v) w') := by rw [hP]; exact fun v w' h => ⟨v, rfl, h⟩
  rw [← hP]
  clear hP
  have hrl : okR s.b s.c = true := hO.rl
  have HM : Hid (∀ W, Below w.heap.size w W → Calls Tryd.prog 35 #[.pointer (some ⟨o, 0, none⟩)] W fun e w' => e = .returned (.bool true) ∧ w' = W) := fun W hW => made_any (h.below hW) hO.ep1
  have HL1 : Hid (∀ W : World, Below w.heap.size w W → (W.cell? ⟨o, 4, none⟩ = some (.int .u64 (s.b : Nat)) ∧ W.cell? ⟨o, 5, none⟩ = some (.int .u64 (s.c : Nat)) ∧ W.cell? ⟨o, 11, none⟩ = some (.bool s.on) ∧ W.cell? ⟨o, 12, none⟩ = some (.int .u64 (s.at_ : Nat)) ∧ W.cell? ⟨o, 13, none⟩ = some (.int .i64 s.tr))) := by
    intro W hW
    obtain ⟨_, _, _, _, c4, c5, _, c11, c12, c13⟩ := (h.below hW).cells
    exact ⟨c4, c5, c11, c12, c13⟩
  have HRI : Hid (∀ W, Below w.heap.size w W → Calls Tryd.prog 53 #[ruV s.b s.c, alV s.on s.at_ s.tr, .int .u64 (n : Nat)] W fun e w' => e = .returned (.bool (s.on && decide (s.at_ ≤ n))) ∧ Below w.heap.size w w') := by
    intro W hW
    refine (rings_any W hrl).mono ?_
    rintro e w' ⟨rfl, hb⟩
    exact ⟨rfl, hW.trans (hb.mono hW.size)⟩
  have HRV : Hid ((s.on && decide (s.at_ ≤ n)) = Lk.rings s n) := rfl
  rw [hr] at HRV
  have HF : Hid (∀ W, Below w.heap.size w W → P (.returned (.slice none 0 0)) W) := by
    intro W hW
    refine HP.out _ _ ?_
    have e1 : Lk.tickS s n = s := by unfold Lk.tickS; rw [hr]; rfl
    have e2 : Lk.tickL s n = [] := by unfold Lk.tickL; rw [hr]; rfl
    rw [e1, e2]
    exact (StepL.still h hW).nopk
  clear h hO hr hrl HP
  go_enter Tryd.func20, Tryd.ntmps20
  go_wp2_with fail
  have hb0 : Below w.heap.size w w.drew := (Below.refl _ w).drew
  refine wp_region_held_drew (S := fun W => Below w.heap.size w W) (by kernel_rfl) hb0 (fun hHeld => ?_)
  simp only [List.size_toArray, List.length_cons, List.length_nil, Nat.reduceAdd, Array.replicate_succ, Array.replicate_zero, List.push_toArray, List.nil_append, List.cons_append, List.append_toArray]
  refine take_op (i := 0) (v := ?_) rfl (by kernel_rfl) (by kernel_rfl) (by kernel_rfl) (fun _ _ _ h => h) (Or.inl ⟨by rfl, ?_⟩) (by assumption) ?_
  rotate_left
  · (intro w' hSw; (try dsimp only at hSw); go_simp; (try with_reducible rfl))
  simp only [Act.put, List.setIfInBounds_toArray, List.set_cons_zero, List.set_cons_succ]
  refine wpAnyH_ready (rs := [1]) (by kernel_rfl) (by simp) ?_
  refine cons_op rfl (fun K hK => ?_) AllReadyH.nil
  go_simp
  refine (HM.out _ hb0).mono ?_
  rintro e wm ⟨rfl, hwm⟩
  rw [hwm]
  (try go_wp2_with fail)
  refine hK.out _ _ hb0 (fun hHeld => ?_)
  clear hK K
  (try simp only [Act.put, List.setIfInBounds_toArray, List.set_cons_zero, List.set_cons_succ])
  refine take_op (i := 2) (v := ?_) rfl (by kernel_rfl) (by kernel_rfl) (by kernel_rfl) (fun _ _ _ h => h) (Or.inl ⟨by rfl, ?_⟩) (by assumption) ?_
  rotate_left
  · (intro w' hSw; (try dsimp only at hSw); go_simp; (try with_reducible rfl))
  simp only [Act.put, List.setIfInBounds_toArray, List.set_cons_zero, List.set_cons_succ]
  refine take_op (i := 3) (v := ?_) rfl (by kernel_rfl) (by kernel_rfl) (by kernel_rfl) (fun _ _ _ h => h) (Or.inl ⟨by rfl, ?_⟩) (by assumption) ?_
  rotate_left
  · (intro w' hSw; (try dsimp only at hSw); go_simp; (try with_reducible rfl))
  simp only [Act.put, List.setIfInBounds_toArray, List.set_cons_zero, List.set_cons_succ]
  refine take_op (i := 4) (v := ?_) rfl (by kernel_rfl) (by kernel_rfl) (by kernel_rfl) (fun _ _ _ h => h) (Or.inl ⟨by rfl, ?_⟩) (by assumption) ?_
  rotate_left
  · (intro w' hSw; (try dsimp only at hSw); go_simp; (try with_reducible rfl))
  simp only [Act.put, List.setIfInBounds_toArray, List.set_cons_zero, List.set_cons_succ]
  refine take_op (i := 5) (v := ?_) rfl (by kernel_rfl) (by kernel_rfl) (by kernel_rfl) (fun _ _ _ h => h) (Or.inl ⟨by rfl, ?_⟩) (by assumption) ?_
  rotate_left
  · (intro w' hSw; (try dsimp only at hSw); go_simp; (try with_reducible rfl))
  simp only [Act.put, List.setIfInBounds_toArray, List.set_cons_zero, List.set_cons_succ]
  refine take_op (i := 6) (v := ?_) rfl (by kernel_rfl) (by kernel_rfl) (by kernel_rfl) (fun _ _ _ h => h) (Or.inl ⟨by rfl, ?_⟩) (by assumption) ?_
  rotate_left
  · (intro w' hSw; (try dsimp only at hSw); go_simp; (try with_reducible rfl))
  simp only [Act.put, List.setIfInBounds_toArray, List.set_cons_zero, List.set_cons_succ]
  refine take_op (i := 7) (v := ?_) rfl (by kernel_rfl) (by kernel_rfl) (by kernel_rfl) (fun _ _ _ h => h) (Or.inl ⟨by rfl, ?_⟩) (by assumption) ?_
  rotate_left
  · (intro w' hSw; obtain ⟨l4, l5, l11, l12, l13⟩ := HL1.out _ hSw; go_simp; (try with_reducible rfl))
  simp only [Act.put, List.setIfInBounds_toArray, List.set_cons_zero, List.set_cons_succ]
  refine take_op (i := 8) (v := ?_) rfl (by kernel_rfl) (by kernel_rfl) (by kernel_rfl) (fun _ _ _ h => h) (Or.inl ⟨by rfl, ?_⟩) (by assumption) ?_
  rotate_left
  · (intro w' hSw; (try dsimp only at hSw); go_simp; (try with_reducible rfl))
  simp only [Act.put, List.setIfInBounds_toArray, List.set_cons_zero, List.set_cons_succ]
  refine take_op (i := 9) (v := ?_) rfl (by kernel_rfl) (by kernel_rfl) (by kernel_rfl) (fun _ _ _ h => h) (Or.inl ⟨by rfl, ?_⟩) (by assumption) ?_
  rotate_left
  · (intro w' hSw; (try dsimp only at hSw); go_simp; (try with_reducible rfl))
  simp only [Act.put, List.setIfInBounds_toArray, List.set_cons_zero, List.set_cons_succ]
  refine take_op (i := 10) (v := ?_) rfl (by kernel_rfl) (by kernel_rfl) (by kernel_rfl) (fun _ _ _ h => h) (Or.inl ⟨by rfl, ?_⟩) (by assumption) ?_
  rotate_left
  · (intro w' hSw; (try dsimp only at hSw); go_simp; (try with_reducible rfl))
  simp only [Act.put, List.setIfInBounds_toArray, List.set_cons_zero, List.set_cons_succ]
  refine take_op (i := 11) (v := ?_) rfl (by kernel_rfl) (by kernel_rfl) (by kernel_rfl) (fun _ _ _ h => h) (Or.inl ⟨by rfl, ?_⟩) (by assumption) ?_
  rotate_left
  · (intro w' hSw; (try dsimp only at hSw); go_simp; (try with_reducible rfl))
  simp only [Act.put, List.setIfInBounds_toArray, List.set_cons_zero, List.set_cons_succ]
  refine take_op (i := 12) (v := ?_) rfl (by kernel_rfl) (by kernel_rfl) (by kernel_rfl) (fun _ _ _ h => h) (Or.inl ⟨by rfl, ?_⟩) (by assumption) ?_
  rotate_left
  · (intro w' hSw; obtain ⟨l4, l5, l11, l12, l13⟩ := HL1.out _ hSw; go_simp; (try with_reducible rfl))
  simp only [Act.put, List.setIfInBounds_toArray, List.set_cons_zero, List.set_cons_succ]
  refine take_op (i := 13) (v := ?_) rfl (by kernel_rfl) (by kernel_rfl) (by kernel_rfl) (fun _ _ _ h => h) (Or.inl ⟨by rfl, ?_⟩) (by assumption) ?_
  rotate_left
  · (intro w' hSw; (try dsimp only at hSw); go_simp; (try with_reducible rfl))
  simp only [Act.put, List.setIfInBounds_toArray, List.set_cons_zero, List.set_cons_succ]
  refine wpAnyH_ready (rs := [14]) (by kernel_rfl) (by simp) ?_
  refine cons_op rfl (fun K hK => ?_) AllReadyH.nil
  go_simp
  refine (HRI.out _ hb0).mono ?_
  rintro e w1 ⟨rfl, hb1⟩
  (try rw [HRV.out])
  (try go_wp2_with fail)
  refine hK.out _ _ hb1 (fun hHeld => ?_)
  clear hK K
  (try simp only [Act.put, List.setIfInBounds_toArray, List.set_cons_zero, List.set_cons_succ])
  refine take_op (i := 15) (v := ?_) rfl (by kernel_rfl) (by kernel_rfl) (by kernel_rfl) (fun _ _ _ h => h) (Or.inl ⟨by rfl, ?_⟩) (by assumption) ?_
  rotate_left
  · (intro w' hSw; (try dsimp only at hSw); go_simp; (try with_reducible rfl))
  simp only [Act.put, List.setIfInBounds_toArray, List.set_cons_zero, List.set_cons_succ]
  refine take_op (i := 16) (v := ?_) rfl (by kernel_rfl) (by kernel_rfl) (by kernel_rfl) (fun _ _ _ h => h) (Or.inl ⟨by rfl, ?_⟩) (by assumption) ?_
  rotate_left
  · (intro w' hSw; (try dsimp only at hSw); go_simp; (try with_reducible rfl))
  simp only [Act.put, List.setIfInBounds_toArray, List.set_cons_zero, List.set_cons_succ]
  refine wpAnyH_done (by kernel_rfl) ?_ _
  have HFF := Lib.hid (HF.out _ hb1)
  clear hb1 hb0 HF HM HL1 HRI HRV
  go_wp2
  exact HFF.out

set_option maxHeartbeats 8000000 in
theorem tick_hello {w : World} {T S : Nat → Prop} {o N : Nat} {s : Lk.S} (h : LnkAt w T S o N s) (hO : Lk.Ok s) {n : Nat} (hn : n ≤ topT) (hr : Lk.rings s n = true) (hk : s.kn = 0) :
    Calls Tryd.prog 20 #[.pointer (some ⟨o, 0, none⟩), .int .u64 (n : Nat)] w fun e w' => ∃ v, e = .returned v ∧ StepB w T S o N (Lk.tickS s n) w' v (Lk.tickL s n) := by
  obtain ⟨P, hP⟩ : ∃ P : Ending → World → Prop, P = fun e w' => ∃ v, e = .returned v ∧ StepB w T S o N (Lk.tickS s n) w' v (Lk.tickL s n) := ⟨_, rfl⟩
  have HP : Hid (∀ v w', StepB w T S o N (Lk.tickS s n) w' v (Lk.tickL s n) → P (.returned v) w') := by rw [hP]; exact fun v w' h => ⟨v, rfl, h⟩
  rw [← hP]
  clear hP
  have hrl : okR s.b s.c = true := hO.rl
  have HM : Hid (∀ W, Below w.heap.size w W → Calls Tryd.prog 35 #[.pointer (some ⟨o, 0, none⟩)] W fun e w' => e = .returned (.bool true) ∧ w' = W) := fun W hW => made_any (h.below hW) hO.ep1
  have HL1 : Hid (∀ W : World, Below w.heap.size w W → (W.cell? ⟨o, 4, none⟩ = some (.int .u64 (s.b : Nat)) ∧ W.cell? ⟨o, 5, none⟩ = some (.int .u64 (s.c : Nat)) ∧ W.cell? ⟨o, 11, none⟩ = some (.bool s.on) ∧ W.cell? ⟨o, 12, none⟩ = some (.int .u64 (s.at_ : Nat)) ∧ W.cell? ⟨o, 13, none⟩ = some (.int .i64 s.tr))) := by
    intro W hW
    obtain ⟨_, _, _, _, c4, c5, _, c11, c12, c13⟩ := (h.below hW).cells
    exact ⟨c4, c5, c11, c12, c13⟩
  have HRI : Hid (∀ W, Below w.heap.size w W → Calls Tryd.prog 53 #[ruV s.b s.c, alV s.on s.at_ s.tr, .int .u64 (n : Nat)] W fun e w' => e = .returned (.bool (s.on && decide (s.at_ ≤ n))) ∧ Below w.heap.size w w') := by
    intro W hW
    refine (rings_any W hrl).mono ?_
    rintro e w' ⟨rfl, hb⟩
    exact ⟨rfl, hW.trans (hb.mono hW.size)⟩
  have HRV : Hid ((s.on && decide (s.at_ ≤ n)) = Lk.rings s n) := rfl
  rw [hr] at HRV
  have hon : s.on = true := by unfold Lk.rings at hr; simp at hr; exact hr.1
  obtain ⟨qt, hqt⟩ : ∃ qt, qt = agT s.tr := ⟨_, rfl⟩
  obtain ⟨qa, hqa⟩ : ∃ qa, qa = beh n (dly s.b s.c qt) := ⟨_, rfl⟩
  have hts : Lk.tickS s n = { s with on := true, at_ := qa, tr := qt } := by unfold Lk.tickS; rw [if_pos hr, hqa, hqt, ← hon]; rfl
  have ht1 := hO.t1
  have HAG : Hid (∀ W, Below w.heap.size w W → Calls Tryd.prog 54 #[ruV s.b s.c, alV true s.at_ s.tr, .int .u64 (n : Nat)] W fun e w' => e = .returned (alV true qa qt) ∧ Below w.heap.size w w') := by
    intro W hW
    refine (again_any W hrl hn (by omega)).mono ?_
    rintro e w' ⟨rfl, hb⟩
    rw [hqa, hqt]
    exact ⟨rfl, hW.trans (hb.mono hW.size)⟩
  have HL3 : Hid (∀ W : World, (W.cell? ⟨o, 4, none⟩ = some (.int .u64 (s.b : Nat)) ∧ W.cell? ⟨o, 5, none⟩ = some (.int .u64 (s.c : Nat))) → W.cell? ⟨o, 4, none⟩ = some (.int .u64 (s.b : Nat)) ∧ W.cell? ⟨o, 5, none⟩ = some (.int .u64 (s.c : Nat))) := fun W h => h
  have HA3 : Hid (∀ W : World, Below w.heap.size w W → ((W.cell? ⟨o, 4, none⟩ = some (.int .u64 (s.b : Nat)) ∧ W.cell? ⟨o, 5, none⟩ = some (.int .u64 (s.c : Nat))) ∧ ((((W.setCell ⟨o, 11, none⟩ (.bool true)).setCell ⟨o, 12, none⟩ (.int .u64 (qa : Nat))).setCell ⟨o, 13, none⟩ (.int .i64 qt)).cell? ⟨o, 4, none⟩ = some (.int .u64 (s.b : Nat)) ∧ (((W.setCell ⟨o, 11, none⟩ (.bool true)).setCell ⟨o, 12, none⟩ (.int .u64 (qa : Nat))).setCell ⟨o, 13, none⟩ (.int .i64 qt)).cell? ⟨o, 5, none⟩ = some (.int .u64 (s.c : Nat)))) ∧ (W.cell? ⟨o, 11, none⟩ = some (.bool true) ∧ W.cell? ⟨o, 12, none⟩ = some (.int .u64 (s.at_ : Nat)) ∧ W.cell? ⟨o, 13, none⟩ = some (.int .i64 s.tr) ∧ W.frozen? ⟨o, 11, none⟩ = false ∧ W.frozen? ⟨o, 12, none⟩ = false ∧ W.frozen? ⟨o, 13, none⟩ = false) ∧ StepL w T S o N (Lk.tickS s n) (((W.setCell ⟨o, 11, none⟩ (.bool true)).setCell ⟨o, 12, none⟩ (.int .u64 (qa : Nat))).setCell ⟨o, 13, none⟩ (.int .i64 qt))) := by
    intro W hW
    have hL := h.below hW
    obtain ⟨_, _, _, _, c4, c5, _, c11, c12, c13⟩ := hL.cells
    rw [hon] at c11
    have hs := StepL.al hL true qa qt
    obtain ⟨_, S', hS', _⟩ := id hs
    obtain ⟨_, _, _, _, d4, d5, _⟩ := hS'.cells
    rw [hts]
    exact ⟨⟨⟨c4, c5⟩, d4, d5⟩, ⟨c11, c12, c13, hL.free 11, hL.free 12, hL.free 13⟩, StepL.pre hW hs⟩
  have hkn : (Lk.tickS s n).kn = 0 := by rw [hts]; exact hk
  have HC3 : Hid (∀ W, StepL w T S o N (Lk.tickS s n) W → W.cell? ⟨o, 3, none⟩ = some (.int .u32 0)) := by
    rintro W ⟨_, S', hL, _⟩
    obtain ⟨_, _, _, c3, _⟩ := hL.cells
    rw [c3, hkn]; rfl
  have HBA : Hid (∀ W, StepL w T S o N (Lk.tickS s n) W → Calls Tryd.prog 37 #[.pointer (some ⟨o, 0, none⟩), .int .i64 9] W fun e w' => ∃ v, e = .returned v ∧ P (.returned v) w') := by
    intro W hW
    obtain ⟨_, S', hL, _⟩ := id hW
    refine (bare_any hL 9).mono ?_
    rintro e w' ⟨v, rfl, hb, hp⟩
    refine ⟨v, rfl, HP.out v w' ?_⟩
    have e2 : Lk.tickL s n = [Lk.mk (Lk.tickS s n) 0 (Lk.bareM 9)] := by unfold Lk.tickL; rw [hr, if_pos rfl, if_pos hk, hts]; rfl
    rw [e2]
    exact hW.bare hb hp
  clear h hO hn hr hrl HP hk hts hqa hqt ht1 hkn
  generalize Lk.tickS s n = s3 at *
  rw [hon] at HRV HL1 HRI
  clear hon
  go_enter Tryd.func20, Tryd.ntmps20
  go_wp2_with fail
  have hb0 : Below w.heap.size w w.drew := (Below.refl _ w).drew
  refine wp_region_held_drew (S := fun W => Below w.heap.size w W) (by kernel_rfl) hb0 (fun hHeld => ?_)
  simp only [List.size_toArray, List.length_cons, List.length_nil, Nat.reduceAdd, Array.replicate_succ, Array.replicate_zero, List.push_toArray, List.nil_append, List.cons_append, List.append_toArray]
  refine take_op (i := 0) (v := ?_) rfl (by kernel_rfl) (by kernel_rfl) (by kernel_rfl) (fun _ _ _ h => h) (Or.inl ⟨by rfl, ?_⟩) (by assumption) ?_
  rotate_left
  · (intro w' hSw; (try dsimp only at hSw); go_simp; (try with_reducible rfl))
  simp only [Act.put, List.setIfInBounds_toArray, List.set_cons_zero, List.set_cons_succ]
  refine wpAnyH_ready (rs := [1]) (by kernel_rfl) (by simp) ?_
  refine cons_op rfl (fun K hK => ?_) AllReadyH.nil
  go_simp
  refine (HM.out _ hb0).mono ?_
  rintro e wm ⟨rfl, hwm⟩
  rw [hwm]
  (try go_wp2_with fail)
  refine hK.out _ _ hb0 (fun hHeld => ?_)
  clear hK K
  (try simp only [Act.put, List.setIfInBounds_toArray, List.set_cons_zero, List.set_cons_succ])
  refine take_op (i := 2) (v := ?_) rfl (by kernel_rfl) (by kernel_rfl) (by kernel_rfl) (fun _ _ _ h => h) (Or.inl ⟨by rfl, ?_⟩) (by assumption) ?_
  rotate_left
  · (intro w' hSw; (try dsimp only at hSw); go_simp; (try with_reducible rfl))
  simp only [Act.put, List.setIfInBounds_toArray, List.set_cons_zero, List.set_cons_succ]
  refine take_op (i := 3) (v := ?_) rfl (by kernel_rfl) (by kernel_rfl) (by kernel_rfl) (fun _ _ _ h => h) (Or.inl ⟨by rfl, ?_⟩) (by assumption) ?_
  rotate_left
  · (intro w' hSw; (try dsimp only at hSw); go_simp; (try with_reducible rfl))
  simp only [Act.put, List.setIfInBounds_toArray, List.set_cons_zero, List.set_cons_succ]
  refine take_op (i := 4) (v := ?_) rfl (by kernel_rfl) (by kernel_rfl) (by kernel_rfl) (fun _ _ _ h => h) (Or.inl ⟨by rfl, ?_⟩) (by assumption) ?_
  rotate_left
  · (intro w' hSw; (try dsimp only at hSw); go_simp; (try with_reducible rfl))
  simp only [Act.put, List.setIfInBounds_toArray, List.set_cons_zero, List.set_cons_succ]
  refine take_op (i := 5) (v := ?_) rfl (by kernel_rfl) (by kernel_rfl) (by kernel_rfl) (fun _ _ _ h => h) (Or.inl ⟨by rfl, ?_⟩) (by assumption) ?_
  rotate_left
  · (intro w' hSw; (try dsimp only at hSw); go_simp; (try with_reducible rfl))
  simp only [Act.put, List.setIfInBounds_toArray, List.set_cons_zero, List.set_cons_succ]
  refine take_op (i := 6) (v := ?_) rfl (by kernel_rfl) (by kernel_rfl) (by kernel_rfl) (fun _ _ _ h => h) (Or.inl ⟨by rfl, ?_⟩) (by assumption) ?_
  rotate_left
  · (intro w' hSw; (try dsimp only at hSw); go_simp; (try with_reducible rfl))
  simp only [Act.put, List.setIfInBounds_toArray, List.set_cons_zero, List.set_cons_succ]
  refine take_op (i := 7) (v := ?_) rfl (by kernel_rfl) (by kernel_rfl) (by kernel_rfl) (fun _ _ _ h => h) (Or.inl ⟨by rfl, ?_⟩) (by assumption) ?_
  rotate_left
  · (intro w' hSw; obtain ⟨l4, l5, l11, l12, l13⟩ := HL1.out _ hSw; go_simp; (try with_reducible rfl))
  simp only [Act.put, List.setIfInBounds_toArray, List.set_cons_zero, List.set_cons_succ]
  refine take_op (i := 8) (v := ?_) rfl (by kernel_rfl) (by kernel_rfl) (by kernel_rfl) (fun _ _ _ h => h) (Or.inl ⟨by rfl, ?_⟩) (by assumption) ?_
  rotate_left
  · (intro w' hSw; (try dsimp only at hSw); go_simp; (try with_reducible rfl))
  simp only [Act.put, List.setIfInBounds_toArray, List.set_cons_zero, List.set_cons_succ]
  refine take_op (i := 9) (v := ?_) rfl (by kernel_rfl) (by kernel_rfl) (by kernel_rfl) (fun _ _ _ h => h) (Or.inl ⟨by rfl, ?_⟩) (by assumption) ?_
  rotate_left
  · (intro w' hSw; (try dsimp only at hSw); go_simp; (try with_reducible rfl))
  simp only [Act.put, List.setIfInBounds_toArray, List.set_cons_zero, List.set_cons_succ]
  refine take_op (i := 10) (v := ?_) rfl (by kernel_rfl) (by kernel_rfl) (by kernel_rfl) (fun _ _ _ h => h) (Or.inl ⟨by rfl, ?_⟩) (by assumption) ?_
  rotate_left
  · (intro w' hSw; (try dsimp only at hSw); go_simp; (try with_reducible rfl))
  simp only [Act.put, List.setIfInBounds_toArray, List.set_cons_zero, List.set_cons_succ]
  refine take_op (i := 11) (v := ?_) rfl (by kernel_rfl) (by kernel_rfl) (by kernel_rfl) (fun _ _ _ h => h) (Or.inl ⟨by rfl, ?_⟩) (by assumption) ?_
  rotate_left
  · (intro w' hSw; (try dsimp only at hSw); go_simp; (try with_reducible rfl))
  simp only [Act.put, List.setIfInBounds_toArray, List.set_cons_zero, List.set_cons_succ]
  refine take_op (i := 12) (v := ?_) rfl (by kernel_rfl) (by kernel_rfl) (by kernel_rfl) (fun _ _ _ h => h) (Or.inl ⟨by rfl, ?_⟩) (by assumption) ?_
  rotate_left
  · (intro w' hSw; obtain ⟨l4, l5, l11, l12, l13⟩ := HL1.out _ hSw; go_simp; (try with_reducible rfl))
  simp only [Act.put, List.setIfInBounds_toArray, List.set_cons_zero, List.set_cons_succ]
  refine take_op (i := 13) (v := ?_) rfl (by kernel_rfl) (by kernel_rfl) (by kernel_rfl) (fun _ _ _ h => h) (Or.inl ⟨by rfl, ?_⟩) (by assumption) ?_
  rotate_left
  · (intro w' hSw; (try dsimp only at hSw); go_simp; (try with_reducible rfl))
  simp only [Act.put, List.setIfInBounds_toArray, List.set_cons_zero, List.set_cons_succ]
  refine wpAnyH_ready (rs := [14]) (by kernel_rfl) (by simp) ?_
  refine cons_op rfl (fun K hK => ?_) AllReadyH.nil
  go_simp
  refine (HRI.out _ hb0).mono ?_
  rintro e w1 ⟨rfl, hb1⟩
  (try rw [HRV.out])
  (try go_wp2_with fail)
  refine hK.out _ _ hb1 (fun hHeld => ?_)
  clear hK K
  (try simp only [Act.put, List.setIfInBounds_toArray, List.set_cons_zero, List.set_cons_succ])
  refine take_op (i := 15) (v := ?_) rfl (by kernel_rfl) (by kernel_rfl) (by kernel_rfl) (fun _ _ _ h => h) (Or.inl ⟨by rfl, ?_⟩) (by assumption) ?_
  rotate_left
  · (intro w' hSw; (try dsimp only at hSw); go_simp; (try with_reducible rfl))
  simp only [Act.put, List.setIfInBounds_toArray, List.set_cons_zero, List.set_cons_succ]
  refine take_op (i := 16) (v := ?_) rfl (by kernel_rfl) (by kernel_rfl) (by kernel_rfl) (fun _ _ _ h => h) (Or.inl ⟨by rfl, ?_⟩) (by assumption) ?_
  rotate_left
  · (intro w' hSw; (try dsimp only at hSw); go_simp; (try with_reducible rfl))
  simp only [Act.put, List.setIfInBounds_toArray, List.set_cons_zero, List.set_cons_succ]
  refine wpAnyH_done (by kernel_rfl) ?_ _
  go_wp2_with fail
  have hb9 : Below w.heap.size w w1.drew := hb1.drew
  refine wp_region_held_drew (S := fun W => W.cell? ⟨o, 4, none⟩ = some (.int .u64 (s.b : Nat)) ∧ W.cell? ⟨o, 5, none⟩ = some (.int .u64 (s.c : Nat))) (by kernel_rfl) (HA3.out _ hb9).1.1 (fun hHeld => ?_)
  simp only [List.size_toArray, List.length_cons, List.length_nil, Nat.reduceAdd, Array.replicate_succ, Array.replicate_zero, List.push_toArray, List.nil_append, List.cons_append, List.append_toArray]
  refine take_op (i := 0) (v := ?_) rfl (by kernel_rfl) (by kernel_rfl) (by kernel_rfl) (fun _ _ _ h => h) (Or.inl ⟨by rfl, ?_⟩) (by assumption) ?_
  rotate_left
  · (intro w' hSw; (try dsimp only at hSw); go_simp; (try with_reducible rfl))
  simp only [Act.put, List.setIfInBounds_toArray, List.set_cons_zero, List.set_cons_succ]
  refine take_op (i := 1) (v := ?_) rfl (by kernel_rfl) (by kernel_rfl) (by kernel_rfl) (fun _ _ _ h => h) (Or.inl ⟨by rfl, ?_⟩) (by assumption) ?_
  rotate_left
  · (intro w' hSw; (try dsimp only at hSw); go_simp; (try with_reducible rfl))
  simp only [Act.put, List.setIfInBounds_toArray, List.set_cons_zero, List.set_cons_succ]
  refine take_op (i := 2) (v := ?_) rfl (by kernel_rfl) (by kernel_rfl) (by kernel_rfl) (fun _ _ _ h => h) (Or.inl ⟨by rfl, ?_⟩) (by assumption) ?_
  rotate_left
  · (intro w' hSw; (try dsimp only at hSw); go_simp; (try with_reducible rfl))
  simp only [Act.put, List.setIfInBounds_toArray, List.set_cons_zero, List.set_cons_succ]
  refine take_op (i := 3) (v := ?_) rfl (by kernel_rfl) (by kernel_rfl) (by kernel_rfl) (fun _ _ _ h => h) (Or.inl ⟨by rfl, ?_⟩) (by assumption) ?_
  rotate_left
  · (intro w' hSw; (try dsimp only at hSw); go_simp; (try with_reducible rfl))
  simp only [Act.put, List.setIfInBounds_toArray, List.set_cons_zero, List.set_cons_succ]
  refine take_op (i := 4) (v := ?_) rfl (by kernel_rfl) (by kernel_rfl) (by kernel_rfl) (fun _ _ _ h => h) (Or.inl ⟨by rfl, ?_⟩) (by assumption) ?_
  rotate_left
  · (intro w' hSw; obtain ⟨l4, l5⟩ := HL3.out _ hSw; go_simp; (try with_reducible rfl))
  simp only [Act.put, List.setIfInBounds_toArray, List.set_cons_zero, List.set_cons_succ]
  refine take_op (i := 5) (v := ?_) rfl (by kernel_rfl) (by kernel_rfl) (by kernel_rfl) (fun _ _ _ h => h) (Or.inl ⟨by rfl, ?_⟩) (by assumption) ?_
  rotate_left
  · (intro w' hSw; (try dsimp only at hSw); go_simp; (try with_reducible rfl))
  simp only [Act.put, List.setIfInBounds_toArray, List.set_cons_zero, List.set_cons_succ]
  refine take_op (i := 6) (v := ?_) rfl (by kernel_rfl) (by kernel_rfl) (by kernel_rfl) (fun _ _ _ h => h) (Or.inl ⟨by rfl, ?_⟩) (by assumption) ?_
  rotate_left
  · (intro w' hSw; (try dsimp only at hSw); go_simp; (try with_reducible rfl))
  simp only [Act.put, List.setIfInBounds_toArray, List.set_cons_zero, List.set_cons_succ]
  refine take_op (i := 7) (v := ?_) rfl (by kernel_rfl) (by kernel_rfl) (by kernel_rfl) (fun _ _ _ h => h) (Or.inl ⟨by rfl, ?_⟩) (by assumption) ?_
  rotate_left
  · (intro w' hSw; (try dsimp only at hSw); go_simp; (try with_reducible rfl))
  simp only [Act.put, List.setIfInBounds_toArray, List.set_cons_zero, List.set_cons_succ]
  refine take_op (i := 8) (v := ?_) rfl (by kernel_rfl) (by kernel_rfl) (by kernel_rfl) (fun _ _ _ h => h) (Or.inl ⟨by rfl, ?_⟩) (by assumption) ?_
  rotate_left
  · (intro w' hSw; (try dsimp only at hSw); go_simp; (try with_reducible rfl))
  simp only [Act.put, List.setIfInBounds_toArray, List.set_cons_zero, List.set_cons_succ]
  refine take_op (i := 10) (v := ?_) rfl (by kernel_rfl) (by kernel_rfl) (by kernel_rfl) (fun _ _ _ h => h) (Or.inl ⟨by rfl, ?_⟩) (by assumption) ?_
  rotate_left
  · (intro w' hSw; (try dsimp only at hSw); go_simp; (try with_reducible rfl))
  simp only [Act.put, List.setIfInBounds_toArray, List.set_cons_zero, List.set_cons_succ]
  refine wpAnyH_ready (rs := [9]) (by kernel_rfl) (by simp) ?_
  refine cons_op rfl (fun K hK => ?_) AllReadyH.nil
  obtain ⟨⟨hs9, _⟩, ⟨d11, d12, d13, _⟩, _⟩ := HA3.out _ hb9
  go_simp
  refine hK.out _ _ hs9 (fun hHeld => ?_)
  clear hK K
  (try simp only [Act.put, List.setIfInBounds_toArray, List.set_cons_zero, List.set_cons_succ])
  refine wpAnyH_ready (rs := [11]) (by kernel_rfl) (by simp) ?_
  refine cons_op rfl (fun K hK => ?_) AllReadyH.nil
  go_simp
  refine (HAG.out _ hb9).mono ?_
  rintro e w11 ⟨rfl, hb11⟩
  obtain ⟨⟨hs11, hs11b⟩, ⟨d11, d12, d13, f11, f12, f13⟩, hst⟩ := HA3.out _ hb11
  (try go_wp2_with fail)
  refine hK.out _ _ hs11 (fun hHeld => ?_)
  clear hK K
  (try simp only [Act.put, List.setIfInBounds_toArray, List.set_cons_zero, List.set_cons_succ])
  refine take_op (i := 12) (v := ?_) rfl (by kernel_rfl) (by kernel_rfl) (by kernel_rfl) (fun _ _ _ h => h) (Or.inl ⟨by rfl, ?_⟩) (by assumption) ?_
  rotate_left
  · (intro w' hSw; (try dsimp only at hSw); go_simp; (try with_reducible rfl))
  simp only [Act.put, List.setIfInBounds_toArray, List.set_cons_zero, List.set_cons_succ]
  refine take_op (i := 13) (v := ?_) rfl (by kernel_rfl) (by kernel_rfl) (by kernel_rfl) (fun _ _ _ h => h) (Or.inl ⟨by rfl, ?_⟩) (by assumption) ?_
  rotate_left
  · (intro w' hSw; (try dsimp only at hSw); go_simp; (try with_reducible rfl))
  simp only [Act.put, List.setIfInBounds_toArray, List.set_cons_zero, List.set_cons_succ]
  refine take_op (i := 14) (v := ?_) rfl (by kernel_rfl) (by kernel_rfl) (by kernel_rfl) (fun _ _ _ h => h) (Or.inl ⟨by rfl, ?_⟩) (by assumption) ?_
  rotate_left
  · (intro w' hSw; (try dsimp only at hSw); go_simp; (try with_reducible rfl))
  simp only [Act.put, List.setIfInBounds_toArray, List.set_cons_zero, List.set_cons_succ]
  refine wpAnyH_ready (rs := [15]) (by kernel_rfl) (by simp) ?_
  refine cons_op rfl (fun K hK => ?_) AllReadyH.nil
  go_simp
  refine hK.out _ _ hs11b (fun hHeld => ?_)
  clear hK K
  (try simp only [Act.put, List.setIfInBounds_toArray, List.set_cons_zero, List.set_cons_succ])
  refine wpAnyH_done (by kernel_rfl) ?_ _
  obtain ⟨V3, hV3⟩ : ∃ X, (((w11.setCell ⟨o, 11, none⟩ (.bool true)).setCell ⟨o, 12, none⟩ (.int .u64 (qa : Nat))).setCell ⟨o, 13, none⟩ (.int .i64 qt)) = X := ⟨_, rfl⟩
  have HS3 := Lib.hid hst
  rw [hV3] at HS3 ⊢
  clear hV3 hst d11 d12 d13 f11 f12 f13 hs11 hs11b hb11 hb9 hb1 hb0 HA3 HL3 HAG HM HRI HRV HL1 hHeld
  have c3 := HC3.out _ HS3.out
  go_wp2_with fail
  refine (HBA.out _ HS3.out).mono ?_
  rintro e w14 ⟨v14, rfl, hp⟩
  have HFF := Lib.hid hp
  clear hp c3 HC3 HBA HS3
  go_wp2
  exact HFF.out
end Go.Proofs.YtfgajjfcjlejmaaDoor
