/-
  GridTurned: plain facts: a map upside down, its ways turned.
-/
import Derived.Test.YtlkojoinbogkmaaDoorMore
namespace Go.Proofs.YtlkojoinbogkmaaDoor
set_option maxRecDepth 100000
set_option linter.unusedSimpArgs false
open Go.RowKit

def turnC (c : UInt8) : UInt8 := if c = 94 then 118 else if c = 118 then 94 else c
def turned (L : List (List UInt8)) : List (List UInt8) := L.reverse.map (·.map turnC)
/-- Where a cell comes to lie. -/
def sig (R C a : Nat) : Nat := C * (R - 1 - a / C) + a % C
def flipK (k : Nat) : Nat := if k = 0 then 3 else if k = 3 then 0 else k

theorem sub_sub_of {R q : Nat} (h : q < R) : R - 1 - (R - 1 - q) = q := by omega
theorem sub_lt_of {R q : Nat} (h : q < R) : R - 1 - q < R := by omega

theorem turn_ok (c : UInt8) (h : Pure.okc c = true) : Pure.okc (turnC c) = true := by
  have : ∀ n : Fin 256, Pure.okc (UInt8.ofNat n.val) = true → Pure.okc (turnC (UInt8.ofNat n.val)) = true := by decide +kernel
  have := this ⟨c.toNat, c.toNat_lt⟩
  simpa using this (by simpa using h)
theorem turn_wall (c : UInt8) : (turnC c == 35) = (c == 35) := by
  have : ∀ n : Fin 256, (turnC (UInt8.ofNat n.val) == 35) = (UInt8.ofNat n.val == 35) := by decide +kernel
  have := this ⟨c.toNat, c.toNat_lt⟩
  simpa using this
theorem turn_leaves (c : UInt8) {k : Nat} (hk : k < 4) : leavesB (flipK k) (turnC c) = leavesB k c := by
  have : ∀ n : Fin 256, ∀ k : Fin 4, leavesB (flipK k.val) (turnC (UInt8.ofNat n.val)) = leavesB k.val (UInt8.ofNat n.val) := by decide +kernel
  have := this ⟨c.toNat, c.toNat_lt⟩ ⟨k, hk⟩
  simpa using this
theorem turn_enters (c : UInt8) {k : Nat} (hk : k < 4) : entersB (flipK k) (turnC c) = entersB k c := by
  have : ∀ n : Fin 256, ∀ k : Fin 4, entersB (flipK k.val) (turnC (UInt8.ofNat n.val)) = entersB k.val (UInt8.ofNat n.val) := by decide +kernel
  have := this ⟨c.toNat, c.toNat_lt⟩ ⟨k, hk⟩
  simpa using this

theorem turned_wid {L : List (List UInt8)} (h : Pure.Good L) : Pure.wid (turned L) = Pure.wid L := by
  have hne : L.reverse ≠ [] := by simpa using h.ne
  unfold Pure.wid turned
  cases hr : L.reverse with
  | nil => exact absurd hr hne
  | cons x xs =>
    have hx : x ∈ L := by rw [← List.mem_reverse, hr]; simp
    have := h.row x hx
    simp only [List.map_cons, List.headD_cons, List.length_map]
    exact this

theorem turned_good {L : List (List UInt8)} (h : Pure.Good L) : Pure.Good (turned L) := by
  have hw := turned_wid h
  have hmem : ∀ x ∈ turned L, ∃ y ∈ L, y.map turnC = x := by
    intro x hx
    obtain ⟨y, hy, rfl⟩ := List.mem_map.1 hx
    exact ⟨y, List.mem_reverse.1 hy, rfl⟩
  refine ⟨?_, by simpa [turned] using h.len, ?_, by rw [hw]; exact h.lo, by rw [hw]; exact h.hi, ?_, ?_⟩
  · simpa [turned] using h.ne
  · intro x hx
    obtain ⟨y, hy, rfl⟩ := hmem x hx
    rw [hw, List.length_map]
    exact h.row y hy
  · intro x hx c hc
    obtain ⟨y, hy, rfl⟩ := hmem x hx
    obtain ⟨d, hd, rfl⟩ := List.mem_map.1 hc
    exact turn_ok d (h.ok y hy d hd)
  · have hf := h.free
    unfold Pure.wall at hf ⊢
    rw [List.all_eq_false] at hf ⊢
    obtain ⟨c, hc, hne⟩ := hf
    obtain ⟨y, hy, hcy⟩ := List.mem_flatten.1 hc
    exact ⟨turnC c, List.mem_flatten.2 ⟨y.map turnC, List.mem_map.2 ⟨y, List.mem_reverse.2 hy, rfl⟩, List.mem_map.2 ⟨c, hcy, rfl⟩⟩, by rw [turn_wall]; exact hne⟩

section
variable {R C a : Nat}
theorem sig_lt (ha : a < R * C) (hC : 1 ≤ C) : sig R C a < R * C := by
  have hd : a / C < R := by rw [Nat.div_lt_iff_lt_mul (by omega)]; exact ha
  have hm : a % C < C := Nat.mod_lt _ (by omega)
  unfold sig
  have h1 : C * (R - 1 - a / C) + C ≤ C * R := by
    rw [← Nat.mul_succ]
    exact Nat.mul_le_mul_left C (sub_lt_of hd)
  rw [Nat.mul_comm R C]
  omega
theorem sig_div (hC : 1 ≤ C) : sig R C a / C = R - 1 - a / C := by
  have hm : a % C < C := Nat.mod_lt _ (by omega)
  unfold sig
  rw [Nat.mul_add_div (by omega), Nat.div_eq_of_lt hm]; omega
theorem sig_mod (hC : 1 ≤ C) : sig R C a % C = a % C := by
  have hm : a % C < C := Nat.mod_lt _ (by omega)
  unfold sig
  rw [Nat.mul_add_mod, Nat.mod_eq_of_lt hm]
theorem sig_sig (ha : a < R * C) (hC : 1 ≤ C) : sig R C (sig R C a) = a := by
  have hd : a / C < R := by rw [Nat.div_lt_iff_lt_mul (by omega)]; exact ha
  have e : sig R C (sig R C a) = C * (R - 1 - sig R C a / C) + sig R C a % C := rfl
  rw [e, sig_div hC, sig_mod hC, sub_sub_of hd, Nat.div_add_mod]
end

/-- ms' is ms upside down, its ways turned. -/
def Turned (R C : Nat) (ms ms' : List UInt8) : Prop := ms'.length = ms.length ∧ ∀ a, a < R * C → ms'.getD (sig R C a) 0 = turnC (ms.getD a 0)

theorem turned_flat {L : List (List UInt8)} (h : Pure.Good L) : Turned L.length (Pure.wid L) L.flatten (turned L).flatten := by
  have h2 := turned_good h
  have hw := turned_wid h
  have hC := h.lo
  refine ⟨by rw [h2.size, h.size, hw]; simp [turned], fun a ha => ?_⟩
  have hs := sig_lt ha hC
  have hd : a / Pure.wid L < L.length := by rw [Nat.div_lt_iff_lt_mul (by omega)]; exact ha
  have r2 : ∀ x ∈ turned L, x.length = Pure.wid L := fun x hx => by rw [← hw]; exact h2.row x hx
  have e1 := Pure.flat_at (by omega) (turned L) r2 (sig L.length (Pure.wid L) a)
  have e2 := Pure.flat_at (by omega) L h.row a
  rw [sig_div hC, sig_mod hC] at e1
  have e3 : (turned L)[L.length - 1 - a / Pure.wid L]? = (L[a / Pure.wid L]?).map (·.map turnC) := by
    unfold turned
    rw [List.getElem?_map, List.getElem?_reverse (sub_lt_of hd), sub_sub_of hd]
  have hm : a % Pure.wid L < Pure.wid L := Nat.mod_lt _ (by omega)
  rw [e3, List.getElem?_eq_getElem hd] at e1
  rw [List.getElem?_eq_getElem hd] at e2
  have hrow := h.row L[a / Pure.wid L] (List.getElem_mem hd)
  simp only [Option.map_some, Option.bind_some, List.getElem?_map] at e1 e2
  have e6 : L[a / Pure.wid L][a % Pure.wid L]? = some (L[a / Pure.wid L][a % Pure.wid L]'(by omega)) := List.getElem?_eq_getElem _
  rw [e6] at e1 e2
  simp only [Option.map_some] at e1
  simp only [List.getD, e1, e2, Option.getD_some]

section
variable {R C : Nat} {ms ms' : List UInt8}

theorem side_turn (hC : 1 ≤ C) {a b k : Nat} (hk : k < 4) (ha : a < R * C) (h : side R C a k = some b) : side R C (sig R C a) (flipK k) = some (sig R C b) := by
  obtain ⟨hb, h1, h2⟩ := (side_iff hC).1 h
  have hda : a / C < R := by rw [Nat.div_lt_iff_lt_mul (by omega)]; exact ha
  have hdb : b / C < R := by rw [Nat.div_lt_iff_lt_mul (by omega)]; exact hb
  refine (side_iff hC).2 ⟨sig_lt hb hC, ?_, ?_⟩
  · rw [sig_div hC, sig_div hC]
    generalize a / C = qa at *
    generalize b / C = qb at *
    have hk' : k = 0 ∨ k = 1 ∨ k = 2 ∨ k = 3 := by omega
    rcases hk' with rfl | rfl | rfl | rfl
    · have : dnK (flipK 0) = 1 := rfl
      rw [dn0] at h1; rw [this]; omega
    · have : dnK (flipK 1) = 0 := rfl
      rw [dn1] at h1; rw [this]; omega
    · have : dnK (flipK 2) = 0 := rfl
      rw [dn2] at h1; rw [this]; omega
    · have : dnK (flipK 3) = -1 := rfl
      rw [dn3] at h1; rw [this]; omega
  · rw [sig_mod hC, sig_mod hC]
    have hk' : k = 0 ∨ k = 1 ∨ k = 2 ∨ k = 3 := by omega
    rcases hk' with rfl | rfl | rfl | rfl
    · have : rtK (flipK 0) = 0 := rfl
      rw [rt0] at h2; rw [this]; omega
    · have : rtK (flipK 1) = -1 := rfl
      rw [rt1] at h2; rw [this]; omega
    · have : rtK (flipK 2) = 1 := rfl
      rw [rt2] at h2; rw [this]; omega
    · have : rtK (flipK 3) = 0 := rfl
      rw [rt3] at h2; rw [this]; omega

theorem turn_goes (hT : Turned R C ms ms') {a b k : Nat} (hk : k < 4) (ha : a < R * C) (hb : b < R * C) : goes (ms'.getD (sig R C a) 0) ms' (sig R C b, flipK k) = goes (ms.getD a 0) ms (b, k) := by
  unfold goes
  dsimp only
  rw [hT.2 a ha, hT.2 b hb, turn_leaves _ hk, turn_enters _ hk]

theorem outs_turn (hC : 1 ≤ C) (hT : Turned R C ms ms') {a b : Nat} (ha : a < R * C) (h : b ∈ outs R C ms a) : sig R C b ∈ outs R C ms' (sig R C a) := by
  obtain ⟨k, hk, hs, hg⟩ := mem_outs.1 h
  have hb := side_bd hs
  refine mem_outs.2 ⟨flipK k, by unfold flipK; split <;> (try split) <;> omega, side_turn hC hk ha hs, ?_⟩
  rw [turn_goes hT hk ha hb]
  exact hg

theorem turn_turn (c : UInt8) : turnC (turnC c) = c := by
  have : ∀ n : Fin 256, turnC (turnC (UInt8.ofNat n.val)) = UInt8.ofNat n.val := by decide +kernel
  have := this ⟨c.toNat, c.toNat_lt⟩
  simpa using this

theorem Turned.back (hC : 1 ≤ C) (hT : Turned R C ms ms') : Turned R C ms' ms := by
  refine ⟨hT.1.symm, fun a ha => ?_⟩
  have := hT.2 (sig R C a) (sig_lt ha hC)
  rw [sig_sig ha hC] at this
  rw [this, turn_turn]

theorem rng_rise (n : Nat) : (List.range n).Pairwise (· < ·) := by
  rw [List.range_eq_range']
  exact List.pairwise_lt_range' (step := 1)
theorem rise_nodup {l : List Nat} (h : l.Pairwise (· < ·)) : l.Nodup := by
  rw [List.nodup_iff_pairwise_ne]
  exact h.imp (fun h => Nat.ne_of_lt h)
theorem map_nodup (hC : 1 ≤ C) {l : List Nat} (h : l.Pairwise (· < ·)) (hl : ∀ x ∈ l, x < R * C) : (l.map (sig R C)).Nodup := by
  rw [List.nodup_iff_pairwise_ne, List.pairwise_map]
  refine List.Pairwise.imp_of_mem ?_ h
  intro x y hx hy hlt e
  have := sig_sig (hl x hx) hC
  rw [e, sig_sig (hl y hy) hC] at this
  omega

theorem outs_len_eq (hC : 1 ≤ C) (hT : Turned R C ms ms') {a : Nat} (ha : a < R * C) : (outs R C ms' (sig R C a)).length = (outs R C ms a).length := by
  have hp : ((outs R C ms a).map (sig R C)).Perm (outs R C ms' (sig R C a)) := by
    refine (List.perm_ext_iff_of_nodup (map_nodup hC (outs_rise R C ms a hC) (fun x hx => outs_bd hx)) (rise_nodup (outs_rise _ _ _ _ hC))).2 fun x => ⟨?_, ?_⟩
    · intro hx
      obtain ⟨b, hb, rfl⟩ := List.mem_map.1 hx
      exact outs_turn hC hT ha hb
    · intro hx
      have h2 := outs_turn hC (hT.back hC) (sig_lt ha hC) hx
      rw [sig_sig ha hC] at h2
      exact List.mem_map.2 ⟨_, h2, sig_sig (outs_bd hx) hC⟩
  have := hp.length_eq
  rw [List.length_map] at this
  exact this.symm

theorem eds_sumN (n : Nat) : eds R C ms n = sumN (fun a => (outs R C ms a).length) n := by
  induction n with
  | zero => rfl
  | succ n ih => rw [eds_sum, sumN, ih]
theorem sumN_list (f : Nat → Nat) (n : Nat) : sumN f n = ((List.range n).map f).sum := by
  induction n with
  | zero => rfl
  | succ n ih => rw [sumN, ih, List.range_succ, List.map_append, List.sum_append]; simp

theorem eds_turn (hC : 1 ≤ C) (hT : Turned R C ms ms') (hN : R * C = ms.length) : eds R C ms' ms'.length = eds R C ms ms.length := by
  rw [eds_sumN, eds_sumN, hT.1, ← hN, sumN_list, sumN_list]
  have hp : ((List.range (R * C)).map (sig R C)).Perm (List.range (R * C)) := by
    have hn : ((List.range (R * C)).map (sig R C)).Nodup := map_nodup hC (rng_rise _) (fun x hx => List.mem_range.1 hx)
    refine (List.perm_ext_iff_of_nodup hn List.nodup_range).2 fun x => ?_
    rw [List.mem_map, List.mem_range]
    constructor
    · rintro ⟨y, hy, rfl⟩
      exact sig_lt (List.mem_range.1 hy) hC
    · intro hx
      exact ⟨sig R C x, List.mem_range.2 (sig_lt hx hC), sig_sig hx hC⟩
  rw [← (hp.map (fun a => (outs R C ms' a).length)).sum_nat, List.map_map]
  congr 1
  refine List.map_congr_left fun a ha => ?_
  exact outs_len_eq hC hT (List.mem_range.1 ha)
end
end Go.Proofs.YtlkojoinbogkmaaDoor
