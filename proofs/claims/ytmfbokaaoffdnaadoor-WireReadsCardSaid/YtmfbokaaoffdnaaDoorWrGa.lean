/-
  The document's guess, as a function of bytes.
-/
import Derived.Test.YtmfbokaaoffdnaaDoorWrBa
import Derived.Test.YtmfbokaaoffdnaaDoorWrR
namespace Go.Proofs.YtmfbokaaoffdnaaDoor
set_option maxRecDepth 100000
set_option linter.unusedSimpArgs false
open Go Go.RowKit Wr

namespace Gu
def oth (n : Nat) : Int := if n = 255 then -1 else n
/-- The claims from a place on. -/
def clms (l : List Nat) (at_ many : Nat) : List (Int × Nat) := (List.range many).map (fun k => (((takF l (at_ + 6 * k) 2 : Nat) : Int), takF l (at_ + 6 * k + 2) 4))
/-- One letter: what the message is behind it, and the place. -/
def stepM (l : List Nat) (s : Msg × Nat) (c : Nat) : Msg × Nat :=
  if c = 99 then ({ s.1 with cell := (takF l s.2 2 : Nat) }, s.2 + 2) else if c = 103 then ({ s.1 with gen := takF l s.2 4 }, s.2 + 4) else if c = 115 then ({ s.1 with stamp := takF l s.2 8 }, s.2 + 8)
  else if c = 112 then ({ s.1 with prio := (takF l s.2 1 : Nat) }, s.2 + 1) else if c = 104 then ({ s.1 with hops := (takF l s.2 1 : Nat) }, s.2 + 1) else if c = 111 then ({ s.1 with origin := (takF l s.2 1 : Nat) }, s.2 + 1)
  else if c = 119 then ({ s.1 with other := oth (takF l s.2 1) }, s.2 + 1) else if c = 108 then ({ s.1 with claims := s.1.claims ++ clms l (s.2 + 1) (takF l s.2 1) }, s.2 + 1 + 6 * takF l s.2 1) else s
def msg0 (k : Int) : Msg := ⟨k, 0, 0, 0, 0, 0, 0, 0, []⟩
def guM (l : List Nat) : Msg := ((nmI (takF l 18 1 : Nat)).foldl (stepM l) (msg0 (takF l 18 1 : Nat), 19)).1
def guP (l : List Nat) : Pkt := ⟨(takF l 0 1 : Nat), (takF l 1 1 : Nat), takF l 2 4, takF l 6 4, takF l 10 4, takF l 14 4, guM l⟩

theorem take_be {l r : List Nat} {at_ k : Nat} {n : Int} (h : l.drop at_ = be k n ++ r) : takF l at_ k = val (be k n) ∧ l.drop (at_ + k) = r := by
  unfold takF
  refine ⟨?_, ?_⟩
  · rw [h, List.take_append_of_le_length (by rw [be_length]; exact Nat.le_refl _), List.take_of_length_le (by rw [be_length]; exact Nat.le_refl _)]
  · rw [← List.drop_drop, h, List.drop_append_of_le_length (by rw [be_length]; exact Nat.le_refl _), List.drop_of_length_le (by rw [be_length]; exact Nat.le_refl _), List.nil_append]
theorem val_be : ∀ (k : Nat) (n : Nat), val (be k (n : Int)) = n % 256 ^ k
  | 0, n => by simp [be, val, Nat.mod_one]
  | k + 1, n => by
    rw [be_next, val_cons, val_be k n, be_length, Nat.pow_succ, Nat.mod_mul]
    rw [Nat.mul_comm (256 ^ k)]
    omega
theorem val_nat {k n : Nat} (h : n < 256 ^ k) : val (be k (n : Int)) = n := by rw [val_be, Nat.mod_eq_of_lt h]
/-- What a letter sets. -/
def setF (m : Msg) (s : Msg) (c : Nat) : Msg :=
  if c = 99 then { s with cell := m.cell } else if c = 103 then { s with gen := m.gen } else if c = 115 then { s with stamp := m.stamp }
  else if c = 112 then { s with prio := m.prio } else if c = 104 then { s with hops := m.hops } else if c = 111 then { s with origin := m.origin }
  else if c = 119 then { s with other := m.other } else if c = 108 then { s with claims := s.claims ++ m.claims } else s
structure In (m : Msg) : Prop where
  cell : 0 ≤ m.cell ∧ m.cell < 65536
  gen : m.gen < 4294967296
  stamp : m.stamp < 18446744073709551616
  prio : 0 ≤ m.prio ∧ m.prio < 256
  hops : 0 ≤ m.hops ∧ m.hops < 256
  origin : 0 ≤ m.origin ∧ m.origin < 256
  other : -1 ≤ m.other ∧ m.other < 255
  many : m.claims.length < 256
  claims : ∀ c ∈ m.claims, 0 ≤ c.1 ∧ c.1 < 65536 ∧ c.2 < 4294967296

theorem clms_be (l : List Nat) : ∀ (cl : List (Int × Nat)) (at_ : Nat) (r : List Nat), l.drop at_ = cl.flatMap clm ++ r → (∀ c ∈ cl, 0 ≤ c.1 ∧ c.1 < 65536 ∧ c.2 < 4294967296) → clms l at_ cl.length = cl ∧ l.drop (at_ + 6 * cl.length) = r
  | [], at_, r, h, _ => ⟨rfl, by simpa using h⟩
  | c :: cl, at_, r, h, hc => by
    have h0 : l.drop at_ = be 2 c.1 ++ (be 4 (c.2 : Int) ++ (cl.flatMap clm ++ r)) := by rw [h]; simp [clm]
    obtain ⟨h1, h2⟩ := take_be h0
    obtain ⟨h3, h4⟩ := take_be h2
    have hcc := hc c (by simp)
    have ih := clms_be l cl (at_ + 2 + 4) r h4 (fun x hx => hc x (by simp [hx]))
    obtain ⟨z, hz⟩ := Int.eq_ofNat_of_zero_le hcc.1
    rw [hz] at h1
    rw [val_nat (by have := hcc.2.1; rw [hz] at this; simp; omega)] at h1
    rw [val_nat (by simpa using hcc.2.2)] at h3
    refine ⟨?_, ?_⟩
    · unfold clms at ih ⊢
      rw [List.length_cons, List.range_succ_eq_map, List.map_cons, List.map_map]
      have e1 : (((takF l (at_ + 6 * 0) 2 : Nat) : Int), takF l (at_ + 6 * 0 + 2) 4) = c := by
        rw [Nat.mul_zero, Nat.add_zero, h1, h3]
        rw [← hz]
      rw [e1]
      congr 1
      refine Eq.trans ?_ ih.1
      refine List.map_congr_left (fun k _ => ?_)
      simp only [Function.comp]
      rw [show at_ + 6 * (k + 1) = at_ + 2 + 4 + 6 * k by omega]
    · rw [List.length_cons, show at_ + 6 * (cl.length + 1) = at_ + 2 + 4 + 6 * cl.length by omega]
      exact ih.2

theorem step_be {l : List Nat} {m : Msg} (hm : In m) {s : Msg} {at_ : Nat} {c : Nat} {r : List Nat} (hc : c = 99 ∨ c = 103 ∨ c = 115 ∨ c = 112 ∨ c = 104 ∨ c = 111 ∨ c = 119 ∨ c = 108) (h : l.drop at_ = encF m c ++ r) :
    (stepM l (s, at_) c).1 = setF m s c ∧ l.drop (stepM l (s, at_) c).2 = r := by
  have int_nat : ∀ {z : Int} {k : Nat}, 0 ≤ z → z < (256 ^ k : Nat) → ((val (be k z) : Nat) : Int) = z := by
    intro z k h0 h1
    obtain ⟨n, rfl⟩ := Int.eq_ofNat_of_zero_le h0
    rw [val_nat (by exact_mod_cast h1)]
  rcases hc with rfl | rfl | rfl | rfl | rfl | rfl | rfl | rfl
  · obtain ⟨h1, h2⟩ := take_be (k := 2) (n := m.cell) (r := r) h
    simp only [stepM, setF, if_pos]
    rw [h1, int_nat hm.cell.1 (by have := hm.cell.2; simpa using this)]
    exact ⟨rfl, h2⟩
  · obtain ⟨h1, h2⟩ := take_be (k := 4) (n := (m.gen : Int)) (r := r) h
    simp only [stepM, setF]
    rw [h1, val_nat (by have := hm.gen; simpa using this)]
    exact ⟨rfl, h2⟩
  · obtain ⟨h1, h2⟩ := take_be (k := 8) (n := (m.stamp : Int)) (r := r) h
    simp only [stepM, setF]
    rw [h1, val_nat (by have := hm.stamp; simpa using this)]
    exact ⟨rfl, h2⟩
  · obtain ⟨h1, h2⟩ := take_be (k := 1) (n := m.prio) (r := r) h
    simp only [stepM, setF]
    rw [h1, int_nat hm.prio.1 (by have := hm.prio.2; simpa using this)]
    exact ⟨rfl, h2⟩
  · obtain ⟨h1, h2⟩ := take_be (k := 1) (n := m.hops) (r := r) h
    simp only [stepM, setF]
    rw [h1, int_nat hm.hops.1 (by have := hm.hops.2; simpa using this)]
    exact ⟨rfl, h2⟩
  · obtain ⟨h1, h2⟩ := take_be (k := 1) (n := m.origin) (r := r) h
    simp only [stepM, setF]
    rw [h1, int_nat hm.origin.1 (by have := hm.origin.2; simpa using this)]
    exact ⟨rfl, h2⟩
  · obtain ⟨h1, h2⟩ := take_be (k := 1) (n := m.other) (r := r) h
    have ho : oth (takF l at_ 1) = m.other := by
      rw [h1]
      unfold oth
      have hb := hm.other
      have : val (be 1 m.other) = (m.other % 256).toNat := by simp [be, val]
      rw [this]
      split <;> omega
    simp only [stepM, setF]
    rw [ho]
    exact ⟨rfl, h2⟩
  · have h' : l.drop at_ = be 1 (m.claims.length : Int) ++ (m.claims.flatMap clm ++ r) := by rw [h]; simp [encF]
    obtain ⟨h1, h2⟩ := take_be h'
    rw [val_nat (by have := hm.many; simpa using this)] at h1
    obtain ⟨h3, h4⟩ := clms_be l m.claims (at_ + 1) r h2 hm.claims
    simp only [stepM, setF]
    rw [h1, h3]
    exact ⟨rfl, h4⟩
theorem fold_be {l : List Nat} {m : Msg} (hm : In m) : ∀ (nm : List Nat) (s : Msg) (at_ : Nat) (r : List Nat), (∀ c ∈ nm, c = 99 ∨ c = 103 ∨ c = 115 ∨ c = 112 ∨ c = 104 ∨ c = 111 ∨ c = 119 ∨ c = 108) → l.drop at_ = nm.flatMap (encF m) ++ r →
    (nm.foldl (stepM l) (s, at_)).1 = nm.foldl (setF m) s
  | [], s, at_, r, _, _ => rfl
  | c :: nm, s, at_, r, hn, h => by
    have h' : l.drop at_ = encF m c ++ (nm.flatMap (encF m) ++ r) := by rw [h]; simp
    obtain ⟨h1, h2⟩ := step_be hm (s := s) (hn c (by simp)) h'
    rw [List.foldl_cons, List.foldl_cons]
    have h3 : stepM l (s, at_) c = (setF m s c, (stepM l (s, at_) c).2) := by rw [← h1]
    rw [h3]
    exact fold_be hm nm _ _ r (fun x hx => hn x (by simp [hx])) h2
theorem in_ok {m : Msg} (h : okM m = true) (hg : m.gen < 4294967296) (hs : m.stamp < 18446744073709551616) (hc : ∀ c ∈ m.claims, c.2 < 4294967296) : In m := by
  have f : ∀ j, j < 9 → (lo j ≤ num m j ∧ num m j ≤ hi j) ∨ num m j = 0 := fun j hj => (okM_field h hj).imp (fun h => h.2) (fun h => h.2)
  have f1 : (0 ≤ m.cell ∧ m.cell ≤ 1023) ∨ m.cell = 0 := f 1 (by omega)
  have f4 : (0 ≤ m.prio ∧ m.prio ≤ 15) ∨ m.prio = 0 := f 4 (by omega)
  have f5 : (0 ≤ m.hops ∧ m.hops ≤ 64) ∨ m.hops = 0 := f 5 (by omega)
  have f6 : (0 ≤ m.origin ∧ m.origin ≤ 63) ∨ m.origin = 0 := f 6 (by omega)
  have f7 : (-1 ≤ m.other ∧ m.other ≤ 63) ∨ m.other = 0 := f 7 (by omega)
  have f8 : (0 ≤ (m.claims.length : Int) ∧ (m.claims.length : Int) ≤ 16) ∨ (m.claims.length : Int) = 0 := f 8 (by omega)
  have hr : rise 0 m.claims = true := by
    unfold okM at h
    simp only [Bool.and_eq_true] at h
    exact h.2
  have hri := rise_in m.claims 0 (Int.le_refl _) hr
  exact ⟨by omega, hg, hs, by omega, by omega, by omega, by omega, by omega, fun c hcm => ⟨(hri c hcm).1, by have := (hri c hcm).2; omega, hc c hcm⟩⟩
theorem set_all {m : Msg} (h : okM m = true) (hs : m.stamp < 18446744073709551616) : (nmI m.kind).foldl (setF m) (msg0 m.kind) = m := by
  have f : ∀ j, j < 9 → j ∉ flds m.kind → num m j = 0 := fun j hj hn => (okM_field h hj).elim (fun h => absurd h.1 hn) (fun h => h.2)
  have f1 := f 1 (by omega)
  have f2 := f 2 (by omega)
  have f3 := f 3 (by omega)
  have f4 := f 4 (by omega)
  have f5 := f 5 (by omega)
  have f6 := f 6 (by omega)
  have f7 := f 7 (by omega)
  have f8 := f 8 (by omega)
  have hk : 1 ≤ m.kind ∧ m.kind ≤ 11 := by
    unfold okM isKind at h
    simp only [Bool.and_eq_true, decide_eq_true_eq] at h
    exact h.1.1
  clear f h
  obtain ⟨k, c, g, s, pr, ho, o, t, l⟩ := m
  have e2 : (g : Int) = 0 → g = 0 := by omega
  have e3 : w64 (s : Int) = 0 → s = 0 := by intro h; unfold w64 at h; simp only at hs; split at h <;> omega
  have e8 : (l.length : Int) = 0 → l = [] := fun h => List.eq_nil_of_length_eq_zero (by omega)
  simp only [num] at f1 f2 f3 f4 f5 f6 f7 f8
  simp only at hk
  have cases_ : k = 1 ∨ k = 2 ∨ k = 3 ∨ k = 4 ∨ k = 5 ∨ k = 6 ∨ k = 7 ∨ k = 8 ∨ k = 9 ∨ k = 10 ∨ k = 11 := by omega
  clear hk hs
  rcases cases_ with rfl | rfl | rfl | rfl | rfl | rfl | rfl | rfl | rfl | rfl | rfl
  all_goals
    simp_all [nmI, nmL, setF, msg0, List.getD, flds, fldL]
/-- A packet that may be is guessed from its bytes. -/
theorem gu_plain {p : Pkt} (h : okP p = true) (hf : Fits p) : guP (plain p) = p := by
  have hM := okP_M h
  have hin : In p.msg := in_ok hM hf.gen hf.stamp hf.cgen
  have hR : 0 ≤ p.from_ ∧ p.from_ < 64 ∧ 0 ≤ p.to_ ∧ p.to_ < 64 := by
    unfold okP isR at h
    simp only [Bool.and_eq_true, decide_eq_true_eq] at h
    omega
  have hk : 1 ≤ p.msg.kind ∧ p.msg.kind ≤ 11 := by
    unfold okM isKind at hM
    simp only [Bool.and_eq_true, decide_eq_true_eq] at hM
    exact hM.1.1
  have int_nat : ∀ {z : Int}, 0 ≤ z → z < 256 → ((val (be 1 z) : Nat) : Int) = z := by
    intro z h0 h1
    obtain ⟨n, rfl⟩ := Int.eq_ofNat_of_zero_le h0
    rw [val_nat (by simp; omega)]
  have h0 : (plain p).drop 0 = be 1 p.from_ ++ _ := rfl
  obtain ⟨a0, h1⟩ := take_be h0
  obtain ⟨a1, h2⟩ := take_be h1
  obtain ⟨a2, h3⟩ := take_be h2
  obtain ⟨a3, h4⟩ := take_be h3
  obtain ⟨a4, h5⟩ := take_be h4
  obtain ⟨a5, h6⟩ := take_be h5
  obtain ⟨a6, h7⟩ := take_be h6
  have hfe := hf.fe
  have hte := hf.te
  have hsq := hf.seq
  have hmt := hf.met
  have b0 : ((takF (plain p) 0 1 : Nat) : Int) = p.from_ := by rw [a0]; exact int_nat hR.1 (by omega)
  have b1 : ((takF (plain p) 1 1 : Nat) : Int) = p.to_ := by rw [a1]; exact int_nat hR.2.2.1 (by omega)
  have b2 : takF (plain p) 2 4 = p.fe := by rw [a2]; exact val_nat (by simpa using hfe)
  have b3 : takF (plain p) 6 4 = p.te := by rw [a3]; exact val_nat (by simpa using hte)
  have b4 : takF (plain p) 10 4 = p.seq := by rw [a4]; exact val_nat (by simpa using hsq)
  have b5 : takF (plain p) 14 4 = p.met := by rw [a5]; exact val_nat (by simpa using hmt)
  have b6 : ((takF (plain p) 18 1 : Nat) : Int) = p.msg.kind := by rw [a6]; exact int_nat (by omega) (by omega)
  have b7 : guM (plain p) = p.msg := by
    unfold guM
    rw [b6, fold_be hin (nmI p.msg.kind) _ 19 [] (nm_letters _) (by rw [List.append_nil, ← body_enc _ hM]; exact h7)]
    exact set_all hM hf.stamp
  unfold guP
  rw [b0, b1, b2, b3, b4, b5, b7]
end Gu
end Go.Proofs.YtmfbokaaoffdnaaDoor
