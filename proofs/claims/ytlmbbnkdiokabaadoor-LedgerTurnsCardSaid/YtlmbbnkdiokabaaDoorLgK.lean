/-
  LedgerTurns: who waits is granted in turn.
-/
import Derived.Test.YtlmbbnkdiokabaaDoorLgJ
import Derived.Test.YtlmbbnkdiokabaaDoorTk
namespace Go.Proofs.YtlmbbnkdiokabaaDoor
set_option maxRecDepth 100000
set_option linter.unusedSimpArgs false
open Go Go.RowKit Sp Lg

/-- A ledger of a call's own, all of whose blocks are new, of which something holds. -/
def LV (F b me mq Nb : Nat) (V : World) (Φ : S → Prop) : Prop := ∃ P N s, LedAt V b me mq P N s ∧ N ≤ Nb ∧ (∀ k, LX b me mq P k → F ≤ k) ∧ Φ s
theorem LV.below {F b me mq Nb : Nat} {V V' : World} {Φ : S → Prop} (h : LV F b me mq Nb V Φ) (hb : Below V.heap.size V V') : LV F b me mq Nb V' Φ := by
  obtain ⟨P, N, s, h1, h2⟩ := h
  exact ⟨P, N, s, h1.below hb, h2⟩
theorem LV.mono {F b me mq Nb Nb' : Nat} {V : World} {Φ Ψ : S → Prop} (h : LV F b me mq Nb V Φ) (hN : Nb ≤ Nb') (hΦ : ∀ s, Φ s → Ψ s) : LV F b me mq Nb' V Ψ := by
  obtain ⟨P, N, s, h1, h2, h3, h4⟩ := h
  exact ⟨P, N, s, h1, by omega, h3, hΦ s h4⟩
/-- A step of such a ledger. -/
theorem LV.step {F b me mq Nb N2 : Nat} {V V' : World} {P : Int → Option Nat} {s' : S} {Φ : S → Prop} (hX : ∀ k, LX b me mq P k → F ≤ k) (hF : F ≤ V.heap.size) (h : StepL V V' b me mq P N2 s') (hN : N2 ≤ Nb) (hs : Φ s') : LV F b me mq Nb V' Φ ∧ (∀ w : World, Below F w V → Below F w V') := by
  obtain ⟨P', N', h1, h2, h3, h4⟩ := h
  refine ⟨⟨P', N', s', h1, by omega, fun k hk => ?_, hs⟩, fun w hw => ?_⟩
  · rcases LX.grow h3 hk with e | e
    · exact hX k e
    · omega
  · exact hw.trans (h4.below hX hF)

/-- Behind k statuses. -/
def TA (n : Nat) (k : Nat) (s : S) : Prop := (s.h = 0 ∧ s.R = n ∧ s.C = n) ∧ (∀ c, s.E c = e0) ∧ (∀ c, s.Q c = []) ∧ ∀ j : Nat, j < k → s.T j = true
/-- Behind k requests. -/
def TB (n : Nat) (k : Nat) (s : S) : Prop := (s.h = 0 ∧ s.R = n ∧ s.C = n) ∧ (∀ j : Nat, j < n → s.T j = true) ∧ (k = 0 → s.E 0 = e0 ∧ s.Q 0 = []) ∧ (1 ≤ k → s.E 0 = ⟨0, 1⟩ ∧ (s.Q 0).length = min (k - 1) 8 ∧ ∀ x ∈ s.Q 0, 1 ≤ x.r ∧ x.r < k)
/-- Behind i turns. -/
def TD (n : Nat) (q : List Wt) (i : Nat) (h : Int) (s : S) : Prop := (s.h = 0 ∧ s.R = n ∧ s.C = n) ∧ s.E 0 = ⟨h, (i : Int) + 1⟩ ∧ h ≠ -1 ∧ s.Q 0 = q.drop i
theorem is0 {n : Nat} {s : S} (h : s.h = 0 ∧ s.R = n ∧ s.C = n) (hn : 2 ≤ n) : s.is 0 = true := by
  obtain ⟨h1, h2, h3⟩ := h
  unfold S.is
  rw [h1, h2, h3]
  simp only [Bool.and_eq_true, decide_eq_true_eq]
  exact ⟨⟨by omega, by omega⟩, Int.zero_emod _⟩
theorem hasN {n : Nat} {s : S} (h : s.h = 0 ∧ s.R = n ∧ s.C = n) {r : Nat} (hr : r < n) : s.has (r : Int) = true := by
  unfold S.has
  rw [h.2.1]
  simp only [Bool.and_eq_true, decide_eq_true_eq]
  omega
theorem putL_len {y : Wt} {l : List Wt} (h : ∀ x ∈ l, x.r ≠ y.r) : (putL y l).length = min (l.length + 1) 8 ∨ 8 < l.length := by
  have hh : Sp.has l y.r = false := by
    cases e : Sp.has l y.r with
    | false => rfl
    | true => obtain ⟨x, hx, e2⟩ := has_iff.1 e; exact absurd e2 (h x hx)
  unfold putL
  rw [hh]
  simp only [Bool.false_eq_true, if_false]
  split
  · left; omega
  · rw [ins_length]; omega
/-- A request's step. -/
theorem TB.step {n k : Nat} {s : S} {st p : Int} (hok : Lg.Ok s) (h : TB n k s) (hk : k < n) (hn : 2 ≤ n) (hp : 0 ≤ p ∧ p ≤ 15) : reqE s k 0 p = 0 ∧ TB n (k + 1) (reqS s k 0 st p) := by
  obtain ⟨hd, hT, h0, h1⟩ := h
  have hok1 : reqOk s k 0 p = true := by
    unfold reqOk
    rw [hasN hd hk, is0 hd hn, decide_eq_true hp.1, decide_eq_true hp.2]; rfl
  refine ⟨by unfold reqE; rw [hok1, hT k hk]; rfl, ?_⟩
  unfold reqS
  rw [hok1, hT k hk]
  simp only [Bool.and_self, if_true]
  cases k with
  | zero =>
    obtain ⟨e0', q0⟩ := h0 rfl
    have hr : (s.E 0).r = -1 := by rw [e0']; rfl
    have hg : (s.E 0).g = 0 := by rw [e0']; rfl
    rw [if_neg (by rw [hr]; decide), if_pos hr]
    have hf : full s 0 = false := by unfold full; rw [hg]; decide
    unfold grS
    rw [hf]
    refine ⟨hd, hT, fun e => by omega, fun _ => ⟨?_, ?_, ?_⟩⟩
    · show (if (0 : Int) = 0 then (⟨((0 : Nat) : Int), (s.E 0).g + 1⟩ : En) else s.E 0) = _
      rw [if_pos rfl, hg]; rfl
    · show (s.Q 0).length = _
      rw [q0]; rfl
    · intro x hx
      have : x ∈ s.Q 0 := hx
      rw [q0] at this; cases this
  | succ k =>
    obtain ⟨e1, l1, m1⟩ := h1 (by omega)
    have hr : (s.E 0).r = 0 := by rw [e1]
    rw [if_neg (by rw [hr]; push_cast; omega), if_neg (by rw [hr]; decide)]
    have hQ : (awS s 0 ⟨((k + 1 : Nat) : Int), st, p⟩).Q 0 = putL ⟨((k + 1 : Nat) : Int), st, p⟩ (s.Q 0) := by
      show (if (0 : Int) = 0 then putL ⟨((k + 1 : Nat) : Int), st, p⟩ (s.Q 0) else s.Q 0) = _
      rw [if_pos rfl]
    refine ⟨hd, hT, fun e => by omega, fun _ => ⟨e1, ?_, ?_⟩⟩
    · rw [hQ]
      rcases putL_len (y := ⟨((k + 1 : Nat) : Int), st, p⟩) (l := s.Q 0) (fun x hx => by have := (m1 x hx).2; show x.r ≠ ((k + 1 : Nat) : Int); omega) with h | h
      · rw [h, l1]; omega
      · have := (hok.q 0).len; omega
    · rw [hQ]
      intro x hx
      rcases mem_putL hx with rfl | hx
      · exact ⟨by show (1 : Int) ≤ ((k + 1 : Nat) : Int); omega, by show ((k + 1 : Nat) : Int) < ((k + 1 + 1 : Nat) : Int); omega⟩
      · have := m1 x hx; push_cast at this ⊢; omega
/-- A turn's step. -/
theorem TD.step {n i : Nat} {q : List Wt} {h : Int} {s : S} (hok : Lg.Ok s) (hd : TD n q i h s) (hn : 2 ≤ n) (hi : i < q.length) (hq : q.length ≤ 8) :
    full s 0 = false ∧ relE s h 0 = 0 ∧ TD n q (i + 1) (q.getD i w0).r (relS s h 0 ((i : Int) + 1)) ∧ (relO s h 0 ((i : Int) + 1)).ps = [⟨(q.getD i w0).r, ⟨2, 0, (i : Int) + 2, (q.getD i w0).s, 0, 0⟩⟩] ∧ (relO s h 0 ((i : Int) + 1)).bs.length = 1 := by
  obtain ⟨hd1, hE, hne, hQ⟩ := hd
  have hf : full s 0 = false := by unfold full; rw [hE]; simp; omega
  have hh : s.has h = true := by
    rcases hok.er 0 with e | e
    · rw [hE] at e; exact absurd e hne
    · rw [hE] at e; exact e
  have hr : relOk s h 0 = true := by unfold relOk; rw [hh, is0 hd1 hn]; rfl
  have hhit : relHit s h 0 ((i : Int) + 1) = true := by unfold relHit; rw [hE]; simp
  have hQ2 : s.Q 0 = q.getD i w0 :: q.drop (i + 1) := by
    rw [hQ, List.drop_eq_getElem_cons hi]; simp [List.getD, hi]
  have hyr : (q.getD i w0).r ≠ -1 := S.has_ne (hok.qr 0 _ (by rw [hQ2]; exact List.mem_cons_self)).1
  refine ⟨hf, by unfold relE; rw [hr]; rfl, ?_, ?_, ?_⟩
  · unfold relS
    rw [hr, hhit]
    simp only [Bool.and_self, if_true]
    unfold freS
    rw [hQ2]
    dsimp only
    have hf2 : full ((fr1 s 0).setQ 0 (q.drop (i + 1))) 0 = false := by
      unfold full fr1 S.turn S.setQ at *
      simpa using hf
    unfold grS
    rw [hf2]
    refine ⟨hd1, ?_, hyr, ?_⟩
    · show (if (0 : Int) = 0 then (⟨(q.getD i w0).r, (if (0 : Int) = 0 then (⟨-1, (s.E 0).g⟩ : En) else s.E 0).g + 1⟩ : En) else (fr1 s 0).E 0) = _
      rw [if_pos rfl, if_pos rfl, hE]; push_cast; rfl
    · show (if (0 : Int) = 0 then q.drop (i + 1) else s.Q 0) = _
      rw [if_pos rfl]
  all_goals
    unfold relO
    rw [hr, hhit]
    simp only [Bool.and_self, if_true]
    unfold freO
    rw [hQ2]
    dsimp only
    have hf2 : full ((fr1 s 0).setQ 0 (q.drop (i + 1))) 0 = false := by
      unfold full fr1 S.turn S.setQ at *
      simpa using hf
    unfold grO
    rw [hf2]
  · show [_] = [_]
    congr 2
    congr 1
    show (if (0 : Int) = 0 then (⟨-1, (s.E 0).g⟩ : En) else s.E 0).g + 1 = _
    rw [if_pos rfl, hE]
    show (i : Int) + 1 + 1 = _
    omega
  · rfl
theorem TD.last {n : Nat} {q : List Wt} {h : Int} {s : S} (hok : Lg.Ok s) (hd : TD n q q.length h s) (hn : 2 ≤ n) (hq : q.length ≤ 8) :
    full s 0 = false ∧ ((relS s h 0 ((q.length : Int) + 1)).E 0).r = -1 := by
  obtain ⟨hd1, hE, hne, hQ⟩ := hd
  have hf : full s 0 = false := by unfold full; rw [hE]; simp; omega
  have hh : s.has h = true := by
    rcases hok.er 0 with e | e
    · rw [hE] at e; exact absurd e hne
    · rw [hE] at e; exact e
  have hr : relOk s h 0 = true := by unfold relOk; rw [hh, is0 hd1 hn]; rfl
  have hhit : relHit s h 0 ((q.length : Int) + 1) = true := by unfold relHit; rw [hE]; simp
  have hQ2 : s.Q 0 = [] := by rw [hQ, List.drop_length]
  refine ⟨hf, ?_⟩
  unfold relS
  rw [hr, hhit]
  simp only [Bool.and_self, if_true]
  unfold freS
  rw [hQ2]
  rfl
theorem cells_at {w : World} {B g c n i : Nat} {q : List Wt} (h : w.ownsRow B 71 3 (.slice (some ⟨g, 0, none⟩) n c) n (csA q)) (hi : i < q.length) : w.cell? ⟨g, i * 3, none⟩ = some (.int .i64 (q.getD i w0).r) ∧ w.cell? ⟨g, i * 3 + 1, none⟩ = some (.int .u64 (q.getD i w0).s) := by
  have h0 := h.cells rfl (i * 3) (.int .i64 (q.getD i w0).r) (csA_get hi 0 (by omega))
  have h1 := h.cells rfl (i * 3 + 1) (.int .u64 (q.getD i w0).s) (csA_get hi 1 (by omega))
  have e (j : Nat) : (⟨g, 0, none⟩ : Addr).add j = ⟨g, j, none⟩ := by unfold Addr.add; split <;> simp_all
  rw [e] at h0 h1
  exact ⟨h0, h1⟩
set_option maxHeartbeats 8000000 in
theorem turns_any {w : World} (ha : AF w) {A1 A2 : Option Addr} {l1 l2 : List Nat} (c1 c2 : Nat) (h1 : NumsAt .u8 w A1 l1) (h2 : NumsAt .u16 w A2 l2) (b1 : ∀ x ∈ l1, x ≤ 255) (b2 : ∀ x ∈ l2, x ≤ 65535) :
    Calls Tryd.prog 8 #[.slice A1 l1.length c1, .slice A2 l2.length c2] w fun e w' => e = .returned (.bool true) ∧ Below w.heap.size w w' := by
  obtain ⟨R, hR⟩ : ∃ R : Ending → World → Prop, R = fun e w' => e = .returned (.bool true) ∧ Below w.heap.size w w' := ⟨_, rfl⟩
  have HR : Hid (∀ w', Below w.heap.size w w' → R (.returned (.bool true)) w') := by rw [hR]; exact fun w' h => ⟨rfl, h⟩
  rw [← hR]
  clear hR
  have HAL := Lib.hid (alive_any ha)
  have HA := Lib.hid ha
  have HN1 := Lib.hid h1
  have HN2 := Lib.hid h2
  have HB1 := Lib.hid b1
  have HB2 := Lib.hid b2
  clear ha h1 h2 b1 b2
  obtain ⟨n, hn⟩ : ∃ n, n = l1.length := ⟨_, rfl⟩
  obtain ⟨m, hm⟩ : ∃ m, m = l2.length := ⟨_, rfl⟩
  have HLn := Lib.hid hn
  have HLm := Lib.hid hm
  rw [← hn, ← hm]
  clear hn hm
  by_cases g1 : n < 2
  · have e1 : decide ((n : Int) < 2) = true := by simp; omega
    clear g1
    go_enter Tryd.func8, Tryd.ntmps8
    go_wp2_with fail
    refine HAL.out.mono ?_
    rintro e W0 ⟨rfl, hb0⟩
    have HF := Lib.hid (HR.out W0 hb0)
    clear hb0
    go_wp2
    exact HF.out
  have e1 : decide ((n : Int) < 2) = false := by simp; omega
  by_cases g2 : 20 < n
  · have e2 : decide (20 < (n : Int)) = true := by simp; omega
    clear g1 g2
    go_enter Tryd.func8, Tryd.ntmps8
    go_wp2_with fail
    refine HAL.out.mono ?_
    rintro e W0 ⟨rfl, hb0⟩
    have HF := Lib.hid (HR.out W0 hb0)
    clear hb0
    go_wp2
    exact HF.out
  have e2 : decide (20 < (n : Int)) = false := by simp; omega
  by_cases g3 : m < n
  · have e3 : decide ((m : Int) < (n : Int)) = true := by simp; omega
    have e3' : decide (m < n) = true := by simpa using g3
    clear g1 g2
    go_enter Tryd.func8, Tryd.ntmps8
    go_wp2_with fail
    refine HAL.out.mono ?_
    rintro e W0 ⟨rfl, hb0⟩
    have HF := Lib.hid (HR.out W0 hb0)
    clear hb0
    go_wp2
    exact HF.out
  have e3 : decide ((m : Int) < (n : Int)) = false := by simp; omega
  have hn2 : 2 ≤ n := by omega
  have hn20 : n ≤ 20 := by omega
  go_enter Tryd.func8, Tryd.ntmps8
  go_wp2_with fail
  refine HAL.out.mono ?_
  rintro e W0 ⟨rfl, hb0⟩
  have HW0 := Lib.hid hb0
  have HNew := Lib.hid (new_any (HA.out.kept (keptB hb0) id) 0 (n : Int) (n : Int))
  clear hb0 HAL
  go_wp2_with fail
  refine HNew.out.mono ?_
  intro e W1 hnew
  unfold NewP at hnew
  rw [if_pos (by unfold newB; simp only [Bool.and_eq_true, decide_eq_true_eq]; omega)] at hnew
  obtain ⟨b, me, mq, rfl, hL1, hX1, hB1⟩ := hnew
  -- the ledger, behind no status
  have hA0 : LV w.heap.size b me mq 0 W1 (TA n 0) := ⟨_, 0, _, hL1, Nat.le_refl _, fun k hk => Nat.le_trans HW0.out.size (hX1 k hk), ⟨rfl, rfl, rfl⟩, fun _ => rfl, fun _ => rfl, fun j hj => by omega⟩
  have hBW : Below w.heap.size w W1 := HW0.out.trans (hB1.mono HW0.out.size)
  have HA0 := Lib.hid hA0
  have HBW := Lib.hid hBW
  clear hL1 hX1 hB1 hA0 hBW HNew
  -- a status
  have HStat : Hid (∀ (V : World) (k : Nat), k < n → LV w.heap.size b me mq (2048 * k) V (TA n k) → Below w.heap.size w V → Calls Tryd.prog 24 #[.pointer (some ⟨b, 0, none⟩), .int .i64 (k : Int), .slice none 0 0] V fun e V' => (∃ v, e = .returned v) ∧ LV w.heap.size b me mq (2048 * (k + 1)) V' (TA n (k + 1)) ∧ Below w.heap.size w V') := by
    rintro V k hk ⟨P, N, s, hL, hN, hX, hd, hE, hQ, hT⟩ hB
    refine (status_idle hL (k : Int) (hasN hd hk) (fun c => by rw [hE c]; show (-1 : Int) ≠ k; omega) hQ (n := 0) (fun c => by rw [hE c]; show (0 : Int) ≤ 0; omega) (by omega) (by omega)).mono ?_
    rintro e V' ⟨hv, hst⟩
    obtain ⟨q1, q2⟩ := LV.step (Φ := TA n (k + 1)) (Nb := 2048 * (k + 1)) hX hB.size hst (by omega) ⟨hd, hE, hQ, fun j hj => by
      show (if (j : Int) = (k : Int) then true else s.T j) = true
      by_cases e : j = k
      · rw [if_pos (by omega)]
      · rw [if_neg (by omega)]; exact hT j (by omega)⟩
    exact ⟨hv, q1, q2 w hB⟩
  go_wp2
  go_loopw [9] (fun u wr => ∃ k : Nat, k ≤ n ∧ u = .int .i64 (k : Int) ∧ LV w.heap.size b me mq (2048 * k) wr (TA n k) ∧ Below w.heap.size w wr) (fun u _ => n - (ivl u).toNat)
  case atStart => exact ⟨0, Nat.zero_le _, rfl, HA0.out, HBW.out⟩
  case round =>
    obtain ⟨k, hk, rfl, hLV, hB⟩ := hrel
    by_cases hkn : k < n
    · have d1 : decide ((k : Int) < (n : Int)) = true := by simp; omega
      have ew : IntKind.i64.wrap ((k : Int) + 1) = (k : Int) + 1 := IntWalk.i64_in _ (by omega)
      have HC := Lib.hid (HStat.out _ k hkn hLV hB)
      clear hLV hB
      go_wp2_with fail
      refine HC.out.mono ?_
      rintro e V' ⟨⟨v, rfl⟩, h5, h6⟩
      have H5 := Lib.hid h5
      have H6 := Lib.hid h6
      clear h5 h6 HC
      go_wp2
      go_roundw
      case rel => exact ⟨k + 1, by omega, by push_cast; rfl, H5.out, H6.out⟩
      case measure => simp only [ivl]; omega
    · obtain rfl : n = k := by omega
      have d1 : decide ((n : Int) < (n : Int)) = false := by simp
      have hB0 : LV w.heap.size b me mq (2048 * n) _ (TB n 0) := hLV.mono (Nat.le_refl _) (fun s h => ⟨h.1, h.2.2.2, fun _ => ⟨h.2.1 0, h.2.2.1 0⟩, fun e => by omega⟩)
      have HB0 := Lib.hid hB0
      have HBw := Lib.hid hB
      clear hLV hB hB0 HStat HA0 HBW
      -- a request
      have HReq : Hid (∀ (V : World) (j : Nat) (st p : Int), j < n → LV w.heap.size b me mq (50000 + 2 * j) V (TB n j) → Below w.heap.size w V → 0 ≤ st → st ≤ 18446744073709551615 → 0 ≤ p → p ≤ 15 → Calls Tryd.prog 17 #[.pointer (some ⟨b, 0, none⟩), .int .i64 (j : Int), .int .i64 0, .int .u64 st, .int .i64 p] V fun e V' => (∃ v, e = .returned v) ∧ LV w.heap.size b me mq (50000 + 2 * (j + 1)) V' (TB n (j + 1)) ∧ Below w.heap.size w V') := by
        rintro V j st p hj ⟨P, N, s, hL, hN, hX, hs⟩ hB s0 s1 p0 p1
        have hstep := hs.step (st := st) hL.ok hj hn2 ⟨p0, p1⟩
        refine (request_any hL (j : Int) 0 st p (by unfold I64; omega) s0 s1 (fun e => ?_) (by omega)).mono ?_
        · cases j with
          | zero => exact (hs.2.2.1 rfl).2
          | succ j => rw [(hs.2.2.2 (by omega)).1] at e; exact absurd e (by decide)
        rintro e V' ⟨v, rfl, _, hst⟩
        obtain ⟨q1, q2⟩ := LV.step (Φ := TB n (j + 1)) (Nb := 50000 + 2 * (j + 1)) hX hB.size hst (by omega) hstep.2
        exact ⟨⟨_, rfl⟩, q1, q2 w hB⟩
      go_wp2
      go_loopw [10] (fun u wr => ∃ k : Nat, k ≤ n ∧ u = .int .i64 (k : Int) ∧ LV w.heap.size b me mq (50000 + 2 * k) wr (TB n k) ∧ Below w.heap.size w wr) (fun u _ => n - (ivl u).toNat)
      case atStart => exact ⟨0, Nat.zero_le _, rfl, HB0.out.mono (by omega) (fun _ h => h), HBw.out⟩
      case round =>
        rename World => wr2
        obtain ⟨k, hk, rfl, hLV, hB⟩ := hrel
        by_cases hkn : k < n
        · have d2 : decide ((k : Int) < (n : Int)) = true := by simp; omega
          have ew : IntKind.i64.wrap ((k : Int) + 1) = (k : Int) + 1 := IntWalk.i64_in _ (by omega)
          have hS : ∀ V', Below w.heap.size w V' → (∃ a1, A1 = some a1 ∧ V'.cell? (a1.add k) = some (.int .u8 ((l1.getD k 0 : Nat) : Int))) ∧ (∃ a2, A2 = some a2 ∧ V'.cell? (a2.add k) = some (.int .u16 ((l2.getD k 0 : Nat) : Int))) := by
            intro V' hb'
            obtain ⟨a1, e1, _, q1⟩ := (HN1.out.below hb' (Nat.le_refl _)) k (by rw [← HLn.out]; exact hkn)
            obtain ⟨a2, e2, _, q2⟩ := (HN2.out.below hb' (Nat.le_refl _)) k (by rw [← HLm.out]; omega)
            exact ⟨⟨a1, e1, q1⟩, ⟨a2, e2, q2⟩⟩
          have hx1 : l1.getD k 0 ≤ 255 := by
            rw [List.getD_eq_getElem?_getD, List.getElem?_eq_getElem (by rw [← HLn.out]; exact hkn)]
            exact HB1.out _ (List.getElem_mem _)
          have hx2 : l2.getD k 0 ≤ 65535 := by
            rw [List.getD_eq_getElem?_getD, List.getElem?_eq_getElem (by rw [← HLm.out]; omega)]
            exact HB2.out _ (List.getElem_mem _)
          obtain ⟨⟨a1, rfl, _⟩, ⟨a2, rfl, _⟩⟩ := hS _ hB
          have HS : Hid (∀ V', Below w.heap.size w V' → V'.cell? (a1.add k) = some (.int .u8 ((l1.getD k 0 : Nat) : Int)) ∧ V'.cell? (a2.add k) = some (.int .u16 ((l2.getD k 0 : Nat) : Int))) := by
            intro V' hb'
            obtain ⟨⟨_, e1, q1⟩, ⟨_, e2, q2⟩⟩ := hS V' hb'
            cases e1
            cases e2
            exact ⟨q1, q2⟩
          have z0 := HS.out _ hB.drew
          have HRq := fun st p => HReq.out _ k st p hkn (hLV.below (Below.refl _ _).drew) hB.drew
          have HRQ := Lib.hid HRq
          have k0 : (0 : Int) ≤ (k : Int) := by omega
          have k1 : (k : Int) < (n : Int) := by omega
          have k2 : (k : Int) < (m : Int) := by omega
          clear hS hLV hB HRq
          generalize l1.getD k 0 = x1 at *
          generalize l2.getD k 0 = x2 at *
          have ht1 : 0 ≤ (IntKind.i64.wrap (x1 : Int)).tmod 16 := by rw [IntWalk.i64_in _ (by omega), Int.tmod_eq_emod_of_nonneg (by omega)]; omega
          have ht2 : (IntKind.i64.wrap (x1 : Int)).tmod 16 ≤ 15 := by rw [IntWalk.i64_in _ (by omega), Int.tmod_eq_emod_of_nonneg (by omega)]; omega
          go_wp2_with fail
          go_region_held3 (fun W' => W'.cell? (a1.add k) = some (.int .u8 (x1 : Int)) ∧ W'.cell? (a2.add k) = some (.int .u16 (x2 : Int))) (first | exact z0 | exact HS.out _ h6) (first | (go_at_call 17; (with_reducible refine (HRQ.out _ _ ?_ ?_ ?_ ?_).mono ?_); (iterate 4 (first | exact ht1 | exact ht2 | (simp only [IntKind.wrap, IntKind.bits, IntKind.signed]; simp; omega) | (simp [IntKind.wrap, IntKind.bits, IntKind.signed]; done) | omega)); rintro e w9 ⟨⟨v, rfl⟩, h5, h6⟩))
          have H5 := Lib.hid h5
          have H6 := Lib.hid h6
          clear h5 h6
          go_wp2
          go_roundw
          case rel => exact ⟨k + 1, by omega, by push_cast; rfl, H5.out, H6.out⟩
          case measure => simp only [ivl]; omega
        · obtain rfl : n = k := by omega
          have d2 : decide ((n : Int) < (n : Int)) = false := by simp
          clear HReq
          obtain ⟨P, N, s, hL, hN, hX, hd, hT, _, hQ⟩ := hLV
          obtain ⟨hE, hlen, hmem⟩ := hQ (by omega)
          obtain ⟨q, hq⟩ : ∃ q, q = s.Q 0 := ⟨_, rfl⟩
          rw [← hq] at hlen hmem
          have hok := hL.ok
          have hq8 : q.length ≤ 8 := by rw [hq]; exact (hok.q 0).len
          have hq1 : 1 ≤ q.length := by omega
          have hWt := waiters_any hL (c := 0) (by unfold I64; omega)
          rw [← hq] at hWt
          have hHd : Hid (∀ V, Below _ _ V → _) := Lib.hid (fun V hV => holder_any (hL.below hV) (c := 0) (by unfold I64; omega))
          rw [hE] at hHd
          have hnn : min ((n : Int) - 1) 8 = (q.length : Int) := by omega
          have hA0 : LV w.heap.size b me mq 50040 _ (TD n q 0 0) := ⟨P, N, s, hL, by omega, hX, hd, hE, by decide, by rw [hq]; rfl⟩
          have HWt := Lib.hid hWt
          have HA0 := Lib.hid hA0
          have HBw2 := Lib.hid hB
          clear hWt hL hB hA0 hok hmem hT hX hN hE hd hq hlen hQ
          go_wp2_with fail
          refine HWt.out.mono ?_
          rintro e W2 ⟨v, rfl, hrow, hb2⟩
          obtain ⟨gq, cq, rfl, _⟩ := row_sl hrow (by omega)
          have HH2 := Lib.hid (hHd.out _ hb2)
          have HCq := Lib.hid hrow
          have HB3 := Lib.hid hb2
          clear hrow hb2 HWt hHd
          go_wp2_with fail
          refine HH2.out.mono ?_
          rintro e W3 ⟨rfl, hb3⟩
          have HB4 := Lib.hid hb3
          clear hb3 HH2
          have c1' : decide (8 < (q.length : Int)) = false := by simp; omega
          obtain ⟨B0, hB0⟩ : ∃ B0, B0 = wr2.heap.size := ⟨_, rfl⟩
          rw [← hB0] at HCq
          clear hB0
          -- a turn
          have HRel : Hid (∀ (V : World) (i : Nat) (h : Int), i < q.length → LV w.heap.size b me mq (50040 + 2 * i) V (TD n q i h) → Below w.heap.size w V → V.ownsRow B0 71 3 (.slice (some ⟨gq, 0, none⟩) q.length cq) q.length (csA q) →
              Calls Tryd.prog 25 #[.pointer (some ⟨b, 0, none⟩), .int .i64 h, .int .i64 0, .int .u32 ((i : Int) + 1)] V fun e V' => ∃ A1 m1 c1 g2 c2 A3 c3, e = .returned (.tuple #[.agg #[.slice A1 m1 c1, .slice (some ⟨g2, 0, none⟩) 1 c2, .slice A3 1 c3], .int .i64 0]) ∧
                V'.cell? ⟨g2, 0, none⟩ = some (.int .i64 (q.getD i w0).r) ∧ V'.cell? ⟨g2, 4, none⟩ = some (.int .u64 (q.getD i w0).s) ∧ LV w.heap.size b me mq (50040 + 2 * (i + 1)) V' (TD n q (i + 1) (q.getD i w0).r) ∧ Below w.heap.size w V' ∧ V'.ownsRow B0 71 3 (.slice (some ⟨gq, 0, none⟩) q.length cq) q.length (csA q)) := by
            rintro V i h hi ⟨P, N, s, hL, hN, hX, hs⟩ hB hrow
            obtain ⟨hf, hE, hstep, hps, hbs⟩ := TD.step hL.ok hs hn2 hi hq8
            refine (release_any hL h 0 ((i : Int) + 1) (by unfold I64; omega) hf (by omega)).mono ?_
            rintro e V' ⟨v, rfl, hO, hst⟩
            obtain ⟨A1, c1, A2, c2, A3, c3, rfl, hp, _⟩ := hO.sl
            obtain ⟨g2, rfl, hc⟩ := hp (by rw [hps]; exact Nat.zero_lt_one)
            obtain ⟨q1, q2⟩ := LV.step (Φ := TD n q (i + 1) (q.getD i w0).r) (Nb := 50040 + 2 * (i + 1)) hX hB.size hst (by omega) hstep
            rw [hps] at hc
            refine ⟨A1, _, c1, g2, c2, A3, c3, by rw [hE, hps, hbs]; rfl, hc 0 _ rfl, hc 4 _ rfl, q1, q2 w hB, ?_⟩
            obtain ⟨_, _, _, _, _, hk⟩ := hst
            refine hk.row hrow (fun g hg e => ?_)
            rcases hL.typ e (own_typ hrow hg).1 with e | e <;> exact absurd e (by decide)
          have HHol : Hid (∀ (V V' : World) (i : Nat) (h g : Int) (Nb : Nat), g = (i : Int) + 1 → LV w.heap.size b me mq Nb V (TD n q i h) → Below V.heap.size V V' → Calls Tryd.prog 20 #[.pointer (some ⟨b, 0, none⟩), .int .i64 0] V' fun e w' => e = .returned (.tuple #[.int .i64 h, .int .u32 g]) ∧ Below V'.heap.size V' w') := by
            rintro V V' i h _ Nb rfl ⟨P, N, s, hL, hN, hX, hs⟩ hb
            have := holder_any (hL.below hb) (c := 0) (by unfold I64; omega)
            rw [hs.2.1] at this
            exact this
          have HWts : Hid (∀ (V V' : World) (i : Nat) (h : Int) (Nb : Nat), LV w.heap.size b me mq Nb V (TD n q i h) → Below V.heap.size V V' → Calls Tryd.prog 26 #[.pointer (some ⟨b, 0, none⟩), .int .i64 0] V' fun e w' => ∃ A c, e = .returned (.slice A (q.length - i) c) ∧ Below V'.heap.size V' w') := by
            rintro V V' i h Nb ⟨P, N, s, hL, hN, hX, hs⟩ hb
            refine (waiters_any (hL.below hb) (c := 0) (by unfold I64; omega)).mono ?_
            rintro e w' ⟨v, rfl, hrow, hb2⟩
            obtain ⟨A, c, rfl⟩ := own_slice hrow
            exact ⟨A, c, by rw [hs.2.2.2, List.length_drop], hb2⟩
          have hInit : LV w.heap.size b me mq (50040 + 2 * 0) W3 (TD n q 0 0) ∧ Below w.heap.size w W3 ∧ W3.ownsRow B0 71 3 (.slice (some ⟨gq, 0, none⟩) q.length cq) q.length (csA q) := by
            have hb34 := HB3.out.trans (HB4.out.mono HB3.out.size)
            exact ⟨HA0.out.below hb34, HBw2.out.trans (hb34.mono HBw2.out.size), owns_below HCq.out HB4.out (Nat.le_refl _)⟩
          have HInit := Lib.hid hInit
          clear hInit HCq HB3 HB4 HA0 HBw2
          generalize hNq : q.length = nq at *
          have HNQ := Lib.hid hNq
          clear hNq
          go_wp2
          go_loopw [12, 13, 14] (fun u1 u2 u3 wr => ∃ (i : Nat) (h : Int), i ≤ nq ∧ u1 = .int .i64 h ∧ u2 = .int .u32 ((i : Int) + 1) ∧ u3 = .int .i64 (i : Int) ∧ LV w.heap.size b me mq (50040 + 2 * i) wr (TD n q i h) ∧ Below w.heap.size w wr ∧ wr.ownsRow B0 71 3 (.slice (some ⟨gq, 0, none⟩) nq cq) nq (csA q)) (fun _ _ u3 _ => nq - (ivl u3).toNat)
          case atStart => exact ⟨0, 0, Nat.zero_le _, rfl, rfl, rfl, HInit.out⟩
          case round =>
            rename World => wr3
            obtain ⟨i, h, hi, rfl, rfl, rfl, hLV, hB, hrow⟩ := hrel
            by_cases hin : i < nq
            · have d3 : decide ((i : Int) < (nq : Int)) = true := by simp; omega
              have ew : IntKind.i64.wrap ((i : Int) + 1) = (i : Int) + 1 := IntWalk.i64_in _ (by omega)
              have HC := Lib.hid (HRel.out _ i h hin hLV hB hrow)
              clear hLV hB hrow
              go_wp2_with fail
              refine HC.out.mono ?_
              rintro e V' ⟨D1, m1, f1, g2, f2, D3, f3, rfl, z1, z2, hLV, hB, hrow⟩
              obtain ⟨oc, hoc⟩ : ∃ oc : Obj, oc = .cells #[.slice D1 m1 f1, .slice (some ⟨g2, 0, none⟩) 1 f2, .slice D3 1 f3] 48 := ⟨_, rfl⟩
              have jc := World.alloc_heap_new V' oc
              have hb5 := alloc_below V' oc
              have HolC := HHol.out _ _ (i + 1) _ ((i : Int) + 1 + 1) _ (by push_cast; rfl) hLV hb5
              have HB' := Lib.hid hB
              have HLV' := Lib.hid hLV
              have HRow' := Lib.hid hrow
              have HZ : Hid (∀ V, Below (V'.alloc oc).heap.size (V'.alloc oc) V → V.cell? ⟨V'.heap.size, 1, none⟩ = some (.slice (some ⟨g2, 0, none⟩) 1 f2) ∧ V.cell? ⟨g2, 0, none⟩ = some (.int .i64 (q.getD i w0).r) ∧ V.cell? ⟨g2, 4, none⟩ = some (.int .u64 (q.getD i w0).s) ∧ V.cell? ⟨gq, i * 3, none⟩ = some (.int .i64 (q.getD i w0).r) ∧ V.cell? ⟨gq, i * 3 + 1, none⟩ = some (.int .u64 (q.getD i w0).s)) := by
                intro V hV
                have kk := (keptB hb5).trans (keptB hV) (fun _ _ h => h)
                obtain ⟨cc, ee⟩ := cells_at (owns_below hrow hb5 (Nat.le_refl _)) (by rw [HNQ.out]; exact hin)
                refine ⟨(keptB hV).cell (by rw [hoc] at jc ⊢; rw [blk_cell jc]; rfl) id, kk.cell z1 id, kk.cell z2 id, (keptB hV).cell cc id, (keptB hV).cell ee id⟩
              have HWC : Hid (∀ V V2, Below (V'.alloc oc).heap.size (V'.alloc oc) V → Below V.heap.size V V2 → Calls Tryd.prog 26 #[.pointer (some ⟨b, 0, none⟩), .int .i64 0] V2 fun e w' => ∃ A c, e = .returned (.slice A (nq - (i + 1)) c) ∧ Below (V'.alloc oc).heap.size (V'.alloc oc) w') := by
                intro V V2 h1 h2
                have h3 := hb5.trans ((h1.trans (h2.mono h1.size)).mono hb5.size)
                refine (HWts.out V' V2 (i + 1) _ _ hLV h3).mono ?_
                rintro e w' ⟨A, c, rfl, h4⟩
                exact ⟨A, c, rfl, h1.trans ((h2.trans (h4.mono h2.size)).mono h1.size)⟩
              rw [hoc] at HolC HZ HWC
              have HolC := Lib.hid HolC
              clear hB hLV hrow HC z1 z2 hb5 jc hoc
              go_wp2_with fail
              refine HolC.out.mono ?_
              rintro e W5 ⟨rfl, hb6⟩
              have HWC2 := Lib.hid (HWC.out _ _ hb6 (Below.refl _ _).drew)
              have z0 := HZ.out _ hb6.drew
              have ewu : IntKind.u32.wrap ((i : Int) + 1 + 1) = (i : Int) + 1 + 1 := IntWalk.u32_in _ (by omega)
              clear hb6 HWC HolC
              obtain ⟨r, hr⟩ : ∃ r, r = nq - (i + 1) := ⟨_, rfl⟩
              rw [← hr] at HWC2
              have ew1 : IntKind.i64.wrap ((nq : Int) - 1) = (nq : Int) - 1 := IntWalk.i64_in _ (by omega)
              have ew2 : IntKind.i64.wrap ((nq : Int) - 1 - (i : Int)) = (nq : Int) - 1 - (i : Int) := IntWalk.i64_in _ (by omega)
              have e5 : (r : Int) = (nq : Int) - 1 - (i : Int) := by omega
              have i0 : (0 : Int) ≤ (i : Int) := by omega
              have i1 : (i : Int) < (nq : Int) := by omega
              clear hr
              generalize (q.getD i w0).r = qr at *
              generalize (q.getD i w0).s = qs at *
              go_wp2_with fail
              go_region_held3 (fun V => V.cell? ⟨V'.heap.size, 1, none⟩ = some (.slice (some ⟨g2, 0, none⟩) 1 f2) ∧ V.cell? ⟨g2, 0, none⟩ = some (.int .i64 qr) ∧ V.cell? ⟨g2, 4, none⟩ = some (.int .u64 qs) ∧ V.cell? ⟨gq, i * 3, none⟩ = some (.int .i64 qr) ∧ V.cell? ⟨gq, i * 3 + 1, none⟩ = some (.int .u64 qs)) (first | exact z0 | exact HZ.out _ h9) (first | (go_at_call 26; (with_reducible refine HWC2.out.mono ?_); rintro e w9 ⟨A9, c9, rfl, h9⟩))
              (try simp only [ew1, ew2, bne_self_eq_false])
              have hLV9 := HLV'.out.below ((alloc_below V' _).trans (h9.mono (alloc_below V' _).size))
              have hB9 := HB'.out.trans (((alloc_below V' _).trans (h9.mono (alloc_below V' _).size)).mono HB'.out.size)
              have hRow9 := owns_below HRow'.out ((alloc_below V' _).trans (h9.mono (alloc_below V' _).size)) (Nat.le_refl _)
              have HFin : Hid (LV w.heap.size b me mq (50040 + 2 * (i + 1)) w9 (TD n q (i + 1) qr) ∧ Below w.heap.size w w9 ∧ w9.ownsRow B0 71 3 (.slice (some ⟨gq, 0, none⟩) nq cq) nq (csA q)) := Lib.hid ⟨hLV9, hB9, hRow9⟩
              clear hLV9 hB9 hRow9 h9 HZ HWC2 HB' HLV' HRow' z0
              go_wp2
              go_roundw
              case rel => exact ⟨i + 1, qr, by omega, rfl, by push_cast; rfl, by push_cast; rfl, HFin.out⟩
              case measure => simp only [ivl]; omega
            · obtain rfl : i = nq := by omega
              have d3 : decide ((i : Int) < (i : Int)) = false := by simp
              obtain ⟨P, N, s, hL, hN, hX, hs⟩ := hLV
              rw [← HNQ.out] at hs
              obtain ⟨hf, hE⟩ := TD.last hL.ok hs hn2 (by rw [HNQ.out]; exact hq8)
              rw [HNQ.out] at hE
              have HRl : Hid (Calls Tryd.prog 25 #[.pointer (some ⟨b, 0, none⟩), .int .i64 h, .int .i64 0, .int .u32 ((i : Int) + 1)] wr3 fun e V' => (∃ v, e = .returned v) ∧ (∀ V2, Below V'.heap.size V' V2 → Calls Tryd.prog 20 #[.pointer (some ⟨b, 0, none⟩), .int .i64 0] V2 fun e w' => ∃ g, e = .returned (.tuple #[.int .i64 (-1), .int .u32 g]) ∧ Below w.heap.size w w')) := by
                refine Lib.hid ((release_any hL h 0 ((i : Int) + 1) (by unfold I64; omega) hf (by omega)).mono ?_)
                rintro e V' ⟨v, rfl, _, P', N', h1, _, h3, h4⟩
                refine ⟨⟨_, rfl⟩, fun V2 hb2 => (holder_any (h1.below hb2) (c := 0) (by unfold I64; omega)).mono ?_⟩
                rintro e w' ⟨rfl, hb3⟩
                rw [hE]
                have hBV := hB.trans (h4.below hX hB.size)
                exact ⟨_, rfl, hBV.trans ((hb2.trans (hb3.mono hb2.size)).mono hBV.size)⟩
              clear hL hs hf hE hB hrow
              go_wp2_with fail
              refine HRl.out.mono ?_
              rintro e V' ⟨⟨v, rfl⟩, hH⟩
              have HH := Lib.hid (hH _ (Below.refl _ _))
              clear hH HRl
              go_wp2_with fail
              refine HH.out.mono ?_
              rintro e w' ⟨g, rfl, hb⟩
              have HFin := Lib.hid (HR.out _ hb)
              clear hb HH
              go_wp2
              exact HFin.out
end Go.Proofs.YtlmbbnkdiokabaaDoor
