/-
  The document's MayMessage and May: as the program's.
-/
import Derived.Test.YtmfbokaaoffdnaaDoorWrW
import Derived.Test.YtmfbokaaoffdnaaDoorWrI
namespace Go.Proofs.YtmfbokaaoffdnaaDoor
set_option maxRecDepth 100000
set_option linter.unusedSimpArgs false
open Go Go.RowKit Wr

theorem w64_zero {n : Nat} (h : n < 18446744073709551616) : (w64 (n : Int) = 0) ↔ n = 0 := by
  unfold w64
  split <;> omega
theorem w64_rng (n : Int) : -9223372036854775808 ≤ w64 n ∧ w64 n ≤ 9223372036854775807 := by
  unfold w64
  split <;> omega
instance (c pr h o t : Int) (n : Nat) : Decidable (docR c pr h o t n) := by unfold docR; exact inferInstance
theorem okM_doc (m : Msg) (hg : m.gen < 4294967296) (hs : m.stamp < 18446744073709551616) :
    okM m = (isKind m.kind && decide (docR m.cell m.prio m.hops m.origin m.other m.claims.length) && !unz m.kind m.cell m.gen m.stamp m.prio m.hops m.origin m.other m.claims.length && rise 0 m.claims) := by
  obtain ⟨k, c, g, s, pr, h, o, t, l⟩ := m
  simp only at hg hs ⊢
  have hz := w64_zero hs
  have hr := w64_rng (s : Int)
  have hl : okM ⟨k, c, g, s, pr, h, o, t, l⟩ = (isKind k && (List.range 9).all (fun f => if (flds k).contains f then inR f (num ⟨k, c, g, s, pr, h, o, t, l⟩ f) else num ⟨k, c, g, s, pr, h, o, t, l⟩ f == 0) && rise 0 l) := rfl
  rw [hl]
  generalize rise 0 l = b
  generalize hn : l.length = n
  have hnum : ∀ f, num ⟨k, c, g, s, pr, h, o, t, l⟩ f = [0, c, (g : Int), w64 s, pr, h, o, t, (n : Int)].getD f 0 := by
    intro f
    match f with
    | 0 | 1 | 2 | 3 | 4 | 5 | 6 | 7 => rfl
    | 8 => rw [← hn]; rfl
    | f + 9 => rfl
  simp only [hnum]
  generalize w64 (s : Int) = s' at *
  by_cases hk : 1 ≤ k ∧ k ≤ 11
  · have cases_ : k = 1 ∨ k = 2 ∨ k = 3 ∨ k = 4 ∨ k = 5 ∨ k = 6 ∨ k = 7 ∨ k = 8 ∨ k = 9 ∨ k = 10 ∨ k = 11 := by omega
    clear hk hl hnum
    rw [Bool.eq_iff_iff]
    simp only [Bool.and_eq_true, decide_eq_true_iff (p := docR c pr h o t n)]
    rcases cases_ with rfl | rfl | rfl | rfl | rfl | rfl | rfl | rfl | rfl | rfl | rfl
    all_goals
      cases b
      · simp
      · simp [isKind, flds, fldL, List.range, List.range.loop, inR, lo, hi, docR, unz, nmI, nmL, List.getD]
        omega
  · have : isKind k = false := decide_eq_false hk
    rw [this]
    rfl

theorem rmay_any {w : World} (m : Msg) {A : Option Addr} (cap : Nat) (hC : ClaimsAt w A m.claims) (hg : m.gen < 4294967296) (hs : m.stamp < 18446744073709551616) :
    Calls Tryd.prog 6 #[msgA m A m.claims.length cap] w fun e w' => e = .returned (.bool (okM m)) ∧ Below w.heap.size w w' := by
  have ho := okM_doc m hg hs
  by_cases hk : 1 ≤ m.kind ∧ m.kind ≤ 11
  · by_cases hR : docR m.cell m.prio m.hops m.origin m.other m.claims.length
    · have h2 := rmay_all w m.kind m.cell m.gen m.stamp m.prio m.hops m.origin m.other A m.claims.length cap hk hR rfl hC
      rw [ho, show isKind m.kind = true from decide_eq_true hk, decide_eq_true hR]
      exact h2
    · have h2 := rmay_range w m.kind m.cell m.gen m.stamp m.prio m.hops m.origin m.other A m.claims.length cap hk hR
      rw [ho, show isKind m.kind = true from decide_eq_true hk, decide_eq_false hR]
      exact h2
  · have h2 := rmay_kind w m.kind m.cell m.gen m.stamp m.prio m.hops m.origin m.other A m.claims.length cap hk
    rw [ho, show isKind m.kind = false from decide_eq_false hk]
    exact h2
set_option maxHeartbeats 2000000 in
theorem rmayP_any {w : World} (p : Pkt) {A : Option Addr} (cap : Nat) (hC : ClaimsAt w A p.msg.claims) (hg : p.msg.gen < 4294967296) (hs : p.msg.stamp < 18446744073709551616) :
    Calls Tryd.prog 5 #[pktA p A p.msg.claims.length cap] w fun e w' => e = .returned (.bool (okP p)) ∧ Below w.heap.size w w' := by
  have HM : Hid (∀ o, Calls Tryd.prog 6 #[msgA p.msg A p.msg.claims.length cap] (w.alloc o) fun e w' => e = .returned (.bool (okM p.msg)) ∧ Below (w.alloc o).heap.size (w.alloc o) w') := fun o =>
    rmay_any p.msg cap (hC.below ((Below.refl _ w).alloc (Nat.le_refl _) o)) hg hs
  obtain ⟨P, hP⟩ : ∃ P : Ending → World → Prop, P = fun e w' => e = .returned (.bool (okP p)) ∧ Below w.heap.size w w' := ⟨_, rfl⟩
  have HQ : Hid (∀ b, b = okP p → ∀ w', Below w.heap.size w w' → P (.returned (.bool b)) w') := by rw [hP]; exact fun b e w' h => ⟨by rw [e], h⟩
  have HB : Hid (∀ o, Below w.heap.size w (w.alloc o)) := fun o => (Below.refl _ w).alloc (Nat.le_refl _) o
  rw [← hP]
  clear hP hC hg hs
  obtain ⟨f, t, fe, te, sq, mt, m⟩ := p
  have hok : Hid (okP ⟨f, t, fe, te, sq, mt, m⟩ = (decide (0 ≤ f) && decide (f < 64) && decide (0 ≤ t) && decide (t < 64) && (f != t) && okM m)) := by
    show okP _ = _
    simp only [okP, isR]
    simp [Bool.decide_and, Bool.and_assoc]
  obtain ⟨k, c, g, s, pr, h, o, ot, l⟩ := m
  simp only [pktA, msgA] at HM ⊢
  generalize okM ⟨k, c, g, s, pr, h, o, ot, l⟩ = om at *
  generalize okP ⟨f, t, fe, te, sq, mt, ⟨k, c, g, s, pr, h, o, ot, l⟩⟩ = op at *
  generalize l.length = n at *
  by_cases x0 : 0 ≤ f
  · have e0 : decide (0 ≤ f) = true := decide_eq_true x0
    by_cases x1 : f < 64
    · have e1 : decide (f < 64) = true := decide_eq_true x1
      by_cases x2 : 0 ≤ t
      · have e2 : decide (0 ≤ t) = true := decide_eq_true x2
        by_cases x3 : t < 64
        · have e3 : decide (t < 64) = true := decide_eq_true x3
          by_cases x4 : f = t
          · have e4 : (f != t) = false := by simp [x4]
            have HE := Lib.hid (HQ.out false (by rw [hok.out, e0, e1, e2, e3, e4]; rfl) _ (HB.out (.cells #[.int .i64 f, .int .i64 t, .int .u32 (fe : Nat), .int .u32 (te : Nat), .int .u32 (sq : Nat), .int .u32 (mt : Nat), .int .i64 k, .int .i64 c, .int .u32 (g : Nat), .int .u64 (s : Nat), .int .i64 pr, .int .i64 h, .int .i64 o, .int .i64 ot, .slice A n cap] 28)))
            clear HQ hok HB HM x0 x1 x2 x3 x4
            go_enter Tryd.func5, Tryd.ntmps5
            go_wp2
            first | exact HE.out | (go_ret; exact HE.out)
          · have e4 : (f != t) = true := by simp [x4]
            have hE : op = om := by rw [hok.out, e0, e1, e2, e3, e4]; rfl
            have HE := Lib.hid hE
            clear hE hok x0 x1 x2 x3 x4
            go_enter Tryd.func5, Tryd.ntmps5
            go_wp2_with ((with_reducible refine (HM.out _).mono ?_); rintro e w' ⟨rfl, hb'⟩)
            have HF := Lib.hid (HQ.out om HE.out.symm w' ((HB.out _).trans (hb'.mono (HB.out _).size)))
            first | exact HF.out | (go_ret; exact HF.out)
        · have e3 : decide (t < 64) = false := decide_eq_false x3
          have HE := Lib.hid (HQ.out false (by rw [hok.out, e0, e1, e2, e3]; rfl) _ (HB.out (.cells #[.int .i64 f, .int .i64 t, .int .u32 (fe : Nat), .int .u32 (te : Nat), .int .u32 (sq : Nat), .int .u32 (mt : Nat), .int .i64 k, .int .i64 c, .int .u32 (g : Nat), .int .u64 (s : Nat), .int .i64 pr, .int .i64 h, .int .i64 o, .int .i64 ot, .slice A n cap] 28)))
          clear HQ hok HB HM x0 x1 x2 x3
          go_enter Tryd.func5, Tryd.ntmps5
          go_wp2
          first | exact HE.out | (go_ret; exact HE.out)
      · have e2 : decide (0 ≤ t) = false := decide_eq_false x2
        have HE := Lib.hid (HQ.out false (by rw [hok.out, e0, e1, e2]; rfl) _ (HB.out (.cells #[.int .i64 f, .int .i64 t, .int .u32 (fe : Nat), .int .u32 (te : Nat), .int .u32 (sq : Nat), .int .u32 (mt : Nat), .int .i64 k, .int .i64 c, .int .u32 (g : Nat), .int .u64 (s : Nat), .int .i64 pr, .int .i64 h, .int .i64 o, .int .i64 ot, .slice A n cap] 28)))
        clear HQ hok HB HM x0 x1 x2
        go_enter Tryd.func5, Tryd.ntmps5
        go_wp2
        first | exact HE.out | (go_ret; exact HE.out)
    · have e1 : decide (f < 64) = false := decide_eq_false x1
      have HE := Lib.hid (HQ.out false (by rw [hok.out, e0, e1]; rfl) _ (HB.out (.cells #[.int .i64 f, .int .i64 t, .int .u32 (fe : Nat), .int .u32 (te : Nat), .int .u32 (sq : Nat), .int .u32 (mt : Nat), .int .i64 k, .int .i64 c, .int .u32 (g : Nat), .int .u64 (s : Nat), .int .i64 pr, .int .i64 h, .int .i64 o, .int .i64 ot, .slice A n cap] 28)))
      clear HQ hok HB HM x0 x1
      go_enter Tryd.func5, Tryd.ntmps5
      go_wp2
      first | exact HE.out | (go_ret; exact HE.out)
  · have e0 : decide (0 ≤ f) = false := decide_eq_false x0
    have HE := Lib.hid (HQ.out false (by rw [hok.out, e0]; rfl) _ (HB.out (.cells #[.int .i64 f, .int .i64 t, .int .u32 (fe : Nat), .int .u32 (te : Nat), .int .u32 (sq : Nat), .int .u32 (mt : Nat), .int .i64 k, .int .i64 c, .int .u32 (g : Nat), .int .u64 (s : Nat), .int .i64 pr, .int .i64 h, .int .i64 o, .int .i64 ot, .slice A n cap] 28)))
    clear HQ hok HB HM x0
    go_enter Tryd.func5, Tryd.ntmps5
    go_wp2
    first | exact HE.out | (go_ret; exact HE.out)
end Go.Proofs.YtmfbokaaoffdnaaDoor
