/-
  One side of a session, plain: what it has, and what comes of each call.
-/
import Derived.Test.YtfgajjfcjlejmaaDoorWr0
import Derived.Test.YtfgajjfcjlejmaaDoorWi0
import Derived.Lib.Hide
namespace Go.Proofs.YtfgajjfcjlejmaaDoor
set_option maxRecDepth 100000
set_option linter.unusedSimpArgs false
open Go Wr

namespace Lk
structure S where
  self : Int
  peer : Int
  ep : Nat
  kn : Nat
  b : Nat
  c : Nat
  sent : Nat
  opn : List Msg
  l : Nat
  e : Nat
  erl : Nat → Option Msg
  on : Bool
  at_ : Nat
  tr : Int

def top : Nat := 18446744073709551615
def bh (n d : Nat) : Nat := min (n + d) top
/-- A message of a kind alone. -/
def bareM (k : Int) : Msg := ⟨k, 0, 0, 0, 0, 0, 0, 0, []⟩
def isB (k : Int) : Bool := k == 9 || k == 4
def mk (s : S) (seq : Nat) (m : Msg) : Pkt := ⟨s.self, s.peer, s.ep, s.kn, seq, s.l, m⟩
def okRl (b c : Nat) : Bool := decide (1 ≤ b ∧ b ≤ c ∧ c ≤ 4294967296)
def newE (self peer : Int) (ep b c : Nat) : Int := if !(isR self && isR peer && (self != peer) && (ep != 0)) then 2 else if okRl b c then 0 else 90
def newS (self peer : Int) (ep b c : Nat) : S := ⟨self, peer, ep, 0, b, c, 0, [], 0, 0, fun _ => none, false, 0, 0⟩
def begun (s : S) : S := { s with sent := 0, opn := [], l := 0, e := 0, erl := fun _ => none, on := false, at_ := 0, tr := 0 }
def start (s : S) (n : Nat) : S := { s with on := true, at_ := bh n s.b, tr := 0 }
def stop (s : S) : S := { s with on := false, at_ := 0, tr := 0 }
def openS (s : S) (n : Nat) : S := if s.kn = 0 then start s n else s
def openL (s : S) : List Pkt := if s.kn = 0 then [mk s 0 (bareM 9)] else []
def sendE (s : S) (m : Msg) : Int := if !okM m || isB m.kind then 71 else if s.kn = 0 then 110 else if 16 ≤ s.opn.length ∨ s.sent = 4294967295 then 111 else 0
def sendS (s : S) (n : Nat) (m : Msg) : S := if s.on then { s with sent := s.sent + 1, opn := s.opn ++ [m] } else start { s with sent := s.sent + 1, opn := s.opn ++ [m] } n
def ackd (s : S) : Nat := s.sent - s.opn.length
def some_ (s : S) (met : Nat) : Bool := decide (ackd s < met) && decide (met ≤ s.sent)
def cutS (s : S) (met : Nat) : S := if some_ s met then { s with opn := s.opn.drop (met - ackd s) } else s
def ackS (s : S) (n met : Nat) : S := if (cutS s met).opn = [] then stop (cutS s met) else if some_ s met then start (cutS s met) n else cutS s met
def takes (s : S) (seq : Nat) (k : Int) : Bool := !(seq == 0 || isB k) && decide (seq ≤ s.l + 8)
def upd (f : Nat → Option Msg) (n : Nat) (v : Option Msg) : Nat → Option Msg := fun k => if k = n then v else f k
def newL (s : S) (seq : Nat) : Nat := Wd.nl s.l s.e seq
def meetU (s : S) (seq : Nat) (m : Msg) : List Msg := if Wd.code s.l s.e seq = 1 then (List.range' (s.l + 1) (newL s seq - s.l)).map fun n => (upd s.erl seq (some m) n).getD default else []
def meetS (s : S) (seq : Nat) (m : Msg) : S := if Wd.code s.l s.e seq = 1 then { s with l := newL s seq, e := Wd.ne s.l s.e seq, erl := fun n => if n ≤ newL s seq then none else upd s.erl seq (some m) n } else s
/-- What comes of a packet. -/
structure R where
  s : S
  up : List Msg
  back : List Pkt
  ren : Bool
def takeE (s : S) (p : Pkt) : Bool := okP p && (p.from_ == s.peer) && (p.to_ == s.self)
def renS (s : S) (fe : Nat) : S := if s.kn < fe then begun { s with kn := fe } else s
def takeR (s : S) (n : Nat) (p : Pkt) : R :=
  if takeE s p = false then ⟨s, [], [], false⟩
  else if p.fe = 0 ∨ p.fe < s.kn then ⟨s, [], [], false⟩
  else
    if p.te ≠ s.ep then ⟨renS s p.fe, [], if p.te < s.ep then [mk (renS s p.fe) 0 (bareM 9)] else [], decide (s.kn < p.fe)⟩
    else if takes (ackS (renS s p.fe) n p.met) p.seq p.msg.kind then
      ⟨meetS (ackS (renS s p.fe) n p.met) p.seq p.msg, meetU (ackS (renS s p.fe) n p.met) p.seq p.msg, [mk (meetS (ackS (renS s p.fe) n p.met) p.seq p.msg) 0 (bareM 4)], decide (s.kn < p.fe)⟩
    else ⟨ackS (renS s p.fe) n p.met, [], [], decide (s.kn < p.fe)⟩
def dl (b c : Nat) (t : Int) : Nat := min (b * 2 ^ t.toNat) c
def rings (s : S) (n : Nat) : Bool := s.on && decide (s.at_ ≤ n)
def tickS (s : S) (n : Nat) : S := if rings s n then { s with at_ := bh n (dl s.b s.c (min s.tr 999 + 1)), tr := min s.tr 999 + 1 } else s
def tickL (s : S) (n : Nat) : List Pkt := if rings s n then (if s.kn = 0 then [mk s 0 (bareM 9)] else (List.range s.opn.length).map fun i => mk s (ackd s + 1 + i) (s.opn.getD i default)) else []

/-- A message's numbers fit. -/
def Fm (m : Msg) : Prop := okM m = true ∧ m.gen < 4294967296 ∧ m.stamp < 18446744073709551616 ∧ (∀ c ∈ m.claims, c.2 < 4294967296) ∧ m.claims.length ≤ 16

/-- What holds of a link between two calls. -/
structure Ok (s : S) : Prop where
  rs : isR s.self = true
  rp : isR s.peer = true
  ne : (s.self != s.peer) = true
  ep1 : 1 ≤ s.ep
  ep2 : s.ep ≤ 4294967295
  kn : s.kn ≤ 4294967295
  rl : okRl s.b s.c = true
  ol : s.opn.length ≤ 16
  os : s.opn.length ≤ s.sent
  st : s.sent ≤ 4294967295
  w : Wd.Ok s.l s.e
  er : ∀ n, (s.erl n).isSome = (decide (s.l < n) && s.e.testBit (n - s.l - 1))
  om : ∀ m ∈ s.opn, Fm m
  em : ∀ n m, s.erl n = some m → Fm m
  a1 : s.at_ ≤ top
  t1 : 0 ≤ s.tr
  t2 : s.tr ≤ 1000

theorem Ok.new {self peer : Int} {ep b c : Nat} (h : newE self peer ep b c = 0) (he : ep ≤ 4294967295) : Ok (newS self peer ep b c) := by
  unfold newE at h
  split at h
  · cases h
  · rename_i h1
    split at h
    · rename_i h2
      simp only [Bool.not_eq_true', Bool.not_eq_false, Bool.and_eq_true] at h1
      obtain ⟨⟨⟨h3, h4⟩, h5⟩, h6⟩ := h1
      have h7 : ep ≠ 0 := by simpa using h6
      exact ⟨h3, h4, h5, by show 1 ≤ ep; omega, he, Nat.zero_le _, h2, Nat.zero_le _, Nat.zero_le _, Nat.zero_le _, Wd.ok_zero, fun n => by simp [newS], fun m hm => (by cases hm), fun n m h => (by cases h), Nat.zero_le _, Int.le_refl _, by show (0 : Int) ≤ 1000; omega⟩
    · cases h
theorem Ok.begun {s : S} (h : Ok s) (k : Nat) (hk : k ≤ 4294967295) : Ok (begun { s with kn := k }) :=
  ⟨h.rs, h.rp, h.ne, h.ep1, h.ep2, hk, h.rl, Nat.zero_le _, Nat.zero_le _, Nat.zero_le _, Wd.ok_zero, fun n => by simp [Lk.begun], fun m hm => (by cases hm), fun n m h => (by cases h), Nat.zero_le _, Int.le_refl _, by show (0 : Int) ≤ 1000; omega⟩
theorem bh_le (n d : Nat) : bh n d ≤ top := Nat.min_le_right _ _
theorem Ok.start {s : S} (h : Ok s) (n : Nat) : Ok (start s n) :=
  ⟨h.rs, h.rp, h.ne, h.ep1, h.ep2, h.kn, h.rl, h.ol, h.os, h.st, h.w, h.er, h.om, h.em, bh_le _ _, Int.le_refl _, by show (0 : Int) ≤ 1000; omega⟩
theorem Ok.stop {s : S} (h : Ok s) : Ok (stop s) :=
  ⟨h.rs, h.rp, h.ne, h.ep1, h.ep2, h.kn, h.rl, h.ol, h.os, h.st, h.w, h.er, h.om, h.em, Nat.zero_le _, Int.le_refl _, by show (0 : Int) ≤ 1000; omega⟩
theorem Ok.open_ {s : S} (h : Ok s) (n : Nat) : Ok (openS s n) := by unfold openS; split <;> first | exact h.start n | exact h
theorem Ok.send {s : S} (h : Ok s) (n : Nat) {m : Msg} (hm : Fm m) (he : sendE s m = 0) : Ok (sendS s n m) := by
  have h1 : ¬ (16 ≤ s.opn.length ∨ s.sent = 4294967295) := by
    unfold sendE at he
    split at he
    · cases he
    · split at he
      · cases he
      · split at he
        · cases he
        · assumption
  have h2 := h.st
  have h3 := h.os
  have hO : Ok { s with sent := s.sent + 1, opn := s.opn ++ [m] } :=
    ⟨h.rs, h.rp, h.ne, h.ep1, h.ep2, h.kn, h.rl, by show (s.opn ++ [m]).length ≤ 16; simp; omega, by show (s.opn ++ [m]).length ≤ s.sent + 1; simp; omega, by show s.sent + 1 ≤ _; omega, h.w, h.er, fun x hx => by
      rcases List.mem_append.1 hx with hx | hx
      · exact h.om x hx
      · rw [List.mem_singleton] at hx; rw [hx]; exact hm, h.em, h.a1, h.t1, h.t2⟩
  unfold sendS
  split
  · exact hO
  · exact hO.start n
theorem Ok.cut {s : S} (h : Ok s) (met : Nat) : Ok (cutS s met) := by
  unfold cutS
  split
  · exact ⟨h.rs, h.rp, h.ne, h.ep1, h.ep2, h.kn, h.rl, by show (s.opn.drop _).length ≤ 16; have := h.ol; simp; omega, by show (s.opn.drop _).length ≤ s.sent; have := h.os; simp; omega, h.st, h.w, h.er, fun x hx => h.om x (List.mem_of_mem_drop hx), h.em, h.a1, h.t1, h.t2⟩
  · exact h
theorem Ok.ack {s : S} (h : Ok s) (n met : Nat) : Ok (ackS s n met) := by
  unfold ackS
  split
  · exact (h.cut met).stop
  · split
    · exact (h.cut met).start n
    · exact h.cut met
theorem Ok.ren {s : S} (h : Ok s) {fe : Nat} (hf : fe ≤ 4294967295) : Ok (renS s fe) := by
  unfold renS
  split
  · exact h.begun fe hf
  · exact h
theorem Ok.meet {s : S} (h : Ok s) {seq : Nat} (hq : seq ≤ 4294967295) {m : Msg} (hm : Fm m) : Ok (meetS s seq m) := by
  unfold meetS
  split
  · rename_i hc
    have hw := Wd.step_ok h.w hq
    refine ⟨h.rs, h.rp, h.ne, h.ep1, h.ep2, h.kn, h.rl, h.ol, h.os, h.st, hw, fun n => ?_, h.om, fun n m' hn => ?_, h.a1, h.t1, h.t2⟩
    · show (if n ≤ newL s seq then none else upd s.erl seq (some m) n : Option Msg).isSome = (decide (newL s seq < n) && (Wd.ne s.l s.e seq).testBit (n - newL s seq - 1))
      by_cases hn : n ≤ newL s seq
      · have : ¬ newL s seq < n := by omega
        simp [hn, this]
      · have hlt : newL s seq < n := by omega
        have hl := Wd.nl_ge s.l s.e seq
        have h1 := Wd.step_has h.w (n := seq) n
        have hlt2 : s.l < n := by unfold newL at hlt; omega
        rw [Wd.has_high (show Wd.nl s.l s.e seq < n from hlt), Wd.has_high hlt2, hc] at h1
        rw [if_neg hn]
        unfold newL at *
        rw [h1, decide_eq_true hlt, Bool.true_and]
        unfold upd
        by_cases e : n = seq
        · subst e; simp
        · rw [if_neg e, h.er, decide_eq_true hlt2]; simp [e]
    · simp only at hn
      split at hn
      · cases hn
      · unfold upd at hn
        split at hn
        · cases hn; exact hm
        · exact h.em n m' hn
  · exact h
theorem Ok.take {s : S} (h : Ok s) (n : Nat) {p : Pkt} (hf : p.fe ≤ 4294967295) (hq : p.seq ≤ 4294967295) (hm : okP p = true → Fm p.msg) : Ok (takeR s n p).s := by
  unfold takeR
  split
  · exact h
  · rename_i ht
    split
    · exact h
    · split
      · exact h.ren hf
      · split
        · refine ((h.ren hf).ack n _).meet hq (hm ?_)
          simp only [Bool.not_eq_false, takeE, Bool.and_eq_true] at ht
          exact ht.1.1
        · exact (h.ren hf).ack n _
theorem Ok.tick {s : S} (h : Ok s) (n : Nat) : Ok (tickS s n) := by
  unfold tickS
  split
  · have := h.t1
    exact ⟨h.rs, h.rp, h.ne, h.ep1, h.ep2, h.kn, h.rl, h.ol, h.os, h.st, h.w, h.er, h.om, h.em, bh_le _ _, by show 0 ≤ min s.tr 999 + 1; omega, by show min s.tr 999 + 1 ≤ 1000; omega⟩
  · exact h
/-- What was met in order so far lies in the map. -/
theorem Ok.run {s : S} (h : Ok s) {seq : Nat} (hc : Wd.code s.l s.e seq = 1) (m : Msg) : (∀ n, s.l < n → n ≤ newL s seq → ((upd s.erl seq (some m)) n).isSome = true) ∧ (upd s.erl seq (some m)) (newL s seq + 1) = none := by
  obtain ⟨h0, h1, h2, h3⟩ := Wd.code_one hc
  have hp := Wd.put_lt h.w.he h3 h2
  obtain ⟨r1, r2, r3⟩ := Wd.run1_spec hp
  have hnl : newL s seq = s.l + Wd.run1 (Wd.put s.l s.e seq) := by unfold newL Wd.nl; rw [if_pos hc]
  have hu : ∀ n, s.l < n → ((upd s.erl seq (some m)) n).isSome = (Wd.put s.l s.e seq).testBit (n - s.l - 1) := by
    intro n hn
    rw [Wd.put_bit]
    unfold upd
    by_cases e : n = seq
    · subst e; simp
    · rw [if_neg e, h.er, decide_eq_true hn]
      have : ¬ seq - s.l - 1 = n - s.l - 1 := by omega
      simp [this]
  refine ⟨fun n a1 a2 => ?_, ?_⟩
  · rw [hu n a1]; exact r2 _ (by omega)
  · have := hu (newL s seq + 1) (by omega)
    rw [show newL s seq + 1 - s.l - 1 = Wd.run1 (Wd.put s.l s.e seq) by omega, r3] at this
    simpa using this
end Lk
end Go.Proofs.YtfgajjfcjlejmaaDoor
