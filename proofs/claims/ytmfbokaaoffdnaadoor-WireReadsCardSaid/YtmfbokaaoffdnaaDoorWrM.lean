/-
  The document's Equal, of two packets.
-/
import Derived.Test.YtmfbokaaoffdnaaDoorWrK
namespace Go.Proofs.YtmfbokaaoffdnaaDoor
set_option maxRecDepth 100000
set_option linter.unusedSimpArgs false
open Go Go.RowKit Wr

set_option maxHeartbeats 4000000 in
/-- The document's Equal, of two packets in memory. -/
theorem requal_any {w : World} (p q : Pkt) {A B : Option Addr} (ca cb : Nat) (hA : ClaimsAt w A p.msg.claims) (hB : ClaimsAt w B q.msg.claims) (hl : p.msg.claims.length ≤ 100000) (hl2 : q.msg.claims.length ≤ 100000) :
    Calls Tryd.prog 14 #[pktA p A p.msg.claims.length ca, pktA q B q.msg.claims.length cb] w fun e w' => e = .returned (.bool (decide (p = q))) ∧ Below w.heap.size w w' := by
  obtain ⟨P, hP⟩ : ∃ P : Ending → World → Prop, P = fun e w' => e = .returned (.bool (decide (p = q))) ∧ Below w.heap.size w w' := ⟨_, rfl⟩
  have HQ1 : Hid (p ≠ q → ∀ w', Below w.heap.size w w' → P (.returned (.bool false)) w') := by rw [hP]; exact fun h w' hb => ⟨by rw [decide_eq_false h], hb⟩
  have HQ2 : Hid (∀ b w', b = decide (p = q) → Below w.heap.size w w' → P (.returned (.bool b)) w') := by rw [hP]; exact fun b w' h hb => ⟨by rw [h], hb⟩
  rw [← hP]
  clear hP
  have HN : Hid (∀ o o', Below w.heap.size w ((w.alloc o).alloc o')) := fun o o' => ((Below.refl _ w).alloc (Nat.le_refl _) o).alloc (by simp) o'
  have HS : Hid (∀ W, Below w.heap.size w W → Calls Tryd.prog 18 #[msgA p.msg A p.msg.claims.length ca, msgA q.msg B q.msg.claims.length cb] W fun e w' => e = .returned (.bool (decide (p.msg = q.msg))) ∧ Below w.heap.size w w') := by
    intro W h
    refine (rsame_any p.msg q.msg ca cb (hA.below h) (hB.below h) hl hl2).mono ?_
    rintro e w' ⟨rfl, hb⟩
    exact ⟨rfl, h.trans (hb.mono h.size)⟩
  obtain ⟨f1, t1, e1, d1, s1, r1, m1⟩ := p
  obtain ⟨f2, t2, e2, d2, s2, r2, m2⟩ := q
  simp only at HS ⊢
  clear hA hB hl hl2
  generalize m1.claims.length = n1 at *
  generalize m2.claims.length = n2 at *
  obtain ⟨b, hb⟩ : ∃ b, b = decide (m1 = m2) := ⟨_, rfl⟩
  rw [← hb] at HS
  have HBD := Lib.hid hb
  clear hb
  by_cases hne : f1 ≠ f2
  · have HF := Lib.hid (HQ1.out (fun e => hne (congrArg Pkt.from_ e)))
    have u1 : (f1 == f2) = false := by simpa using hne
    go_enter Tryd.func14, Tryd.ntmps14
    go_wp2
    first | exact HF.out _ (HN.out _ _) | (go_ret; exact HF.out _ (HN.out _ _))
  replace hne := Classical.not_not.1 hne
  subst hne
  by_cases hne : t1 ≠ t2
  · have HF := Lib.hid (HQ1.out (fun e => hne (congrArg Pkt.to_ e)))
    have u1 : (t1 == t2) = false := by simpa using hne
    go_enter Tryd.func14, Tryd.ntmps14
    go_wp2
    first | exact HF.out _ (HN.out _ _) | (go_ret; exact HF.out _ (HN.out _ _))
  replace hne := Classical.not_not.1 hne
  subst hne
  by_cases hne : e1 ≠ e2
  · have HF := Lib.hid (HQ1.out (fun e => hne (congrArg Pkt.fe e)))
    have u1 : ((e1 : Int) == (e2 : Int)) = false := by simp; omega
    have u2 : (e1 == e2) = false := by simpa using hne
    go_enter Tryd.func14, Tryd.ntmps14
    go_wp2
    first | exact HF.out _ (HN.out _ _) | (go_ret; exact HF.out _ (HN.out _ _))
  replace hne := Classical.not_not.1 hne
  subst hne
  by_cases hne : d1 ≠ d2
  · have HF := Lib.hid (HQ1.out (fun e => hne (congrArg Pkt.te e)))
    have u1 : ((d1 : Int) == (d2 : Int)) = false := by simp; omega
    have u2 : (d1 == d2) = false := by simpa using hne
    go_enter Tryd.func14, Tryd.ntmps14
    go_wp2
    first | exact HF.out _ (HN.out _ _) | (go_ret; exact HF.out _ (HN.out _ _))
  replace hne := Classical.not_not.1 hne
  subst hne
  by_cases hne : s1 ≠ s2
  · have HF := Lib.hid (HQ1.out (fun e => hne (congrArg Pkt.seq e)))
    have u1 : ((s1 : Int) == (s2 : Int)) = false := by simp; omega
    have u2 : (s1 == s2) = false := by simpa using hne
    go_enter Tryd.func14, Tryd.ntmps14
    go_wp2
    first | exact HF.out _ (HN.out _ _) | (go_ret; exact HF.out _ (HN.out _ _))
  replace hne := Classical.not_not.1 hne
  subst hne
  by_cases hne : r1 ≠ r2
  · have HF := Lib.hid (HQ1.out (fun e => hne (congrArg Pkt.met e)))
    have u1 : ((r1 : Int) == (r2 : Int)) = false := by simp; omega
    have u2 : (r1 == r2) = false := by simpa using hne
    go_enter Tryd.func14, Tryd.ntmps14
    go_wp2
    first | exact HF.out _ (HN.out _ _) | (go_ret; exact HF.out _ (HN.out _ _))
  replace hne := Classical.not_not.1 hne
  subst hne
  have HF : Hid (∀ w', Below w.heap.size w w' → P (.returned (.bool b)) w') := fun w' h => HQ2.out b w' (by rw [HBD.out]; by_cases e : m1 = m2 <;> simp [e]) h
  go_enter Tryd.func14, Tryd.ntmps14
  go_wp2_with fail
  refine (HS.out _ (HN.out _ _)).mono ?_
  rintro e w2 ⟨rfl, hb2⟩
  have HB2 := Lib.hid hb2
  clear hb2
  go_wp2
  first | exact HF.out _ HB2.out | (go_ret; exact HF.out _ HB2.out)
end Go.Proofs.YtmfbokaaoffdnaaDoor
