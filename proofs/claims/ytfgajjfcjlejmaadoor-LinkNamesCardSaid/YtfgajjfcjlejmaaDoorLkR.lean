/-
  Take, whole.
-/
import Derived.Test.YtfgajjfcjlejmaaDoorLkK
import Derived.Test.YtfgajjfcjlejmaaDoorLkTRmore
import Derived.Test.YtfgajjfcjlejmaaDoorLkTRyes
import Derived.Test.YtfgajjfcjlejmaaDoorLkTNmore
import Derived.Test.YtfgajjfcjlejmaaDoorLkTNyes
namespace Go.Proofs.YtfgajjfcjlejmaaDoor
set_option maxRecDepth 100000
set_option linter.unusedSimpArgs false
open Go Go.RowKit Wr

theorem TakeQ.mono {w : World} {T S : Nat → Prop} {o N M : Nat} {r r' : Lk.R} {err err' : Int} {e : Ending} {w' : World} (h : TakeQ w T S o N r err e w') (hN : N ≤ M) (hr : r' = r) (he : err' = err) : TakeQ w T S o M r' err' e w' := by
  subst hr he
  obtain ⟨uv, bv, h1, h2, S', h3, h4, h5, h6, h7⟩ := h
  exact ⟨uv, bv, h1, h2, S', h3.mono hN, h4, h5, h6, h7⟩
/-- A packet is taken. -/
theorem take_any {w : World} {T S : Nat → Prop} {o N : Nat} {s : Lk.S} {n : Nat} {p : Pkt} {A : Option Addr} {cap : Nat} (ha : TkA w T S o N s n p A cap) :
    Calls Tryd.prog 17 #[.pointer (some ⟨o, 0, none⟩), .int .u64 (n : Nat), pktA p A p.msg.claims.length cap] w (TakeQ w T S o (N + 1) (Lk.takeR s n p) (if Lk.takeE s p then 0 else 2)) := by
  have hep1 := ha.ok.ep1
  cases hok : okP p with
  | false =>
    have he : Lk.takeE s p = false := by unfold Lk.takeE; rw [hok]; rfl
    have hr : Lk.takeR s n p = ⟨s, [], [], false⟩ := by unfold Lk.takeR; rw [if_pos he]
    exact (take_e1 ha hok).mono (fun e w' h => h.mono (by omega) hr (by rw [he]; rfl))
  | true =>
    by_cases hf1 : p.from_ = s.peer
    · by_cases hf2 : p.to_ = s.self
      · have he : Lk.takeE s p = true := by unfold Lk.takeE; rw [hok]; simp [hf1, hf2]
        have hen : ¬ Lk.takeE s p = false := by rw [he]; simp
        have hee : (if Lk.takeE s p then (0 : Int) else 2) = 0 := by rw [he]; rfl
        by_cases h0 : p.fe = 0
        · have hr : Lk.takeR s n p = ⟨s, [], [], false⟩ := by unfold Lk.takeR; rw [if_neg hen, if_pos (.inl h0)]
          exact (take_s1 ha hok hf1 hf2 h0).mono (fun e w' h => h.mono (by omega) hr hee)
        · by_cases h1 : p.fe < s.kn
          · have hr : Lk.takeR s n p = ⟨s, [], [], false⟩ := by unfold Lk.takeR; rw [if_neg hen, if_pos (.inr h1)]
            exact (take_s2 ha hok hf1 hf2 h0 h1).mono (fun e w' h => h.mono (by omega) hr hee)
          · have h01 : ¬ (p.fe = 0 ∨ p.fe < s.kn) := fun h => h.elim h0 h1
            by_cases h2 : s.kn < p.fe
            · have hren : Lk.renS s p.fe = Lk.begun { s with kn := p.fe } := by unfold Lk.renS; rw [if_pos h2]
              have hdec : decide (s.kn < p.fe) = true := by simpa using h2
              by_cases h3 : p.te = s.ep
              · cases h4 : Lk.takes (Lk.ackS (Lk.begun { s with kn := p.fe }) n p.met) p.seq p.msg.kind with
                | false =>
                  have hr : Lk.takeR s n p = ⟨Lk.ackS (Lk.begun { s with kn := p.fe }) n p.met, [], [], true⟩ := by unfold Lk.takeR; rw [if_neg hen, if_neg h01, if_neg (fun h => h h3), hren, h4, hdec]; rfl
                  exact (take_r_no ha hok hf1 hf2 h0 h2 h3 h4).mono (fun e w' h => h.mono (by omega) hr hee)
                | true =>
                  have hr : Lk.takeR s n p = ⟨Lk.meetS (Lk.ackS (Lk.begun { s with kn := p.fe }) n p.met) p.seq p.msg, Lk.meetU (Lk.ackS (Lk.begun { s with kn := p.fe }) n p.met) p.seq p.msg, [Lk.mk (Lk.meetS (Lk.ackS (Lk.begun { s with kn := p.fe }) n p.met) p.seq p.msg) 0 (Lk.bareM 4)], true⟩ := by unfold Lk.takeR; rw [if_neg hen, if_neg h01, if_neg (fun h => h h3), hren, h4, hdec]; rfl
                  exact (take_r_yes ha hok hf1 hf2 h0 h2 h3 h4).mono (fun e w' h => h.mono (by omega) hr hee)
              · by_cases h4 : p.te < s.ep
                · have hr : Lk.takeR s n p = ⟨Lk.begun { s with kn := p.fe }, [], [Lk.mk (Lk.begun { s with kn := p.fe }) 0 (Lk.bareM 9)], true⟩ := by unfold Lk.takeR; rw [if_neg hen, if_neg h01, if_pos h3, hren, if_pos h4, hdec]
                  exact (take_r_less ha hok hf1 hf2 h0 h2 h4).mono (fun e w' h => h.mono (by omega) hr hee)
                · have hr : Lk.takeR s n p = ⟨Lk.begun { s with kn := p.fe }, [], [], true⟩ := by unfold Lk.takeR; rw [if_neg hen, if_neg h01, if_pos h3, hren, if_neg h4, hdec]
                  exact (take_r_more ha hok hf1 hf2 h0 h2 (by omega)).mono (fun e w' h => h.mono (by omega) hr hee)
            · have hren : Lk.renS s p.fe = s := by unfold Lk.renS; rw [if_neg h2]
              have hdec : decide (s.kn < p.fe) = false := by simpa using h2
              by_cases h3 : p.te = s.ep
              · cases h4 : Lk.takes (Lk.ackS s n p.met) p.seq p.msg.kind with
                | false =>
                  have hr : Lk.takeR s n p = ⟨Lk.ackS s n p.met, [], [], false⟩ := by unfold Lk.takeR; rw [if_neg hen, if_neg h01, if_neg (fun h => h h3), hren, h4, hdec]; rfl
                  exact (take_n_no ha hok hf1 hf2 h0 (by omega) h3 h4).mono (fun e w' h => h.mono (by omega) hr hee)
                | true =>
                  have hr : Lk.takeR s n p = ⟨Lk.meetS (Lk.ackS s n p.met) p.seq p.msg, Lk.meetU (Lk.ackS s n p.met) p.seq p.msg, [Lk.mk (Lk.meetS (Lk.ackS s n p.met) p.seq p.msg) 0 (Lk.bareM 4)], false⟩ := by unfold Lk.takeR; rw [if_neg hen, if_neg h01, if_neg (fun h => h h3), hren, h4, hdec]; rfl
                  exact (take_n_yes ha hok hf1 hf2 h0 (by omega) h3 h4).mono (fun e w' h => h.mono (by omega) hr hee)
              · by_cases h4 : p.te < s.ep
                · have hr : Lk.takeR s n p = ⟨s, [], [Lk.mk s 0 (Lk.bareM 9)], false⟩ := by unfold Lk.takeR; rw [if_neg hen, if_neg h01, if_pos h3, hren, if_pos h4, hdec]
                  exact (take_n_less ha hok hf1 hf2 h0 (by omega) h4).mono (fun e w' h => h.mono (by omega) hr hee)
                · have hr : Lk.takeR s n p = ⟨s, [], [], false⟩ := by unfold Lk.takeR; rw [if_neg hen, if_neg h01, if_pos h3, hren, if_neg h4, hdec]
                  exact (take_n_more ha hok hf1 hf2 h0 (by omega) (by omega)).mono (fun e w' h => h.mono (by omega) hr hee)
      · have he : Lk.takeE s p = false := by unfold Lk.takeE; rw [hok]; simp [hf2]
        have hr : Lk.takeR s n p = ⟨s, [], [], false⟩ := by unfold Lk.takeR; rw [if_pos he]
        exact (take_e3 ha hok hf1 hf2).mono (fun e w' h => h.mono (by omega) hr (by rw [he]; rfl))
    · have he : Lk.takeE s p = false := by unfold Lk.takeE; rw [hok]; simp [hf1]
      have hr : Lk.takeR s n p = ⟨s, [], [], false⟩ := by unfold Lk.takeR; rw [if_pos he]
      exact (take_e2 ha hok hf1).mono (fun e w' h => h.mono (by omega) hr (by rw [he]; rfl))
end Go.Proofs.YtfgajjfcjlejmaaDoor
