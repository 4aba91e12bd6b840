/-
  Bytes that were sent, and what is left of them.
-/
import Derived.Test.YtkhlaccabofkcaaBc
import Derived.Test.YtkhlaccabofkcaaB1
import Derived.Deep.RegionHeld3
namespace Go.Proofs.Ytkhlaccabofkcaa
set_option maxRecDepth 100000
set_option linter.unusedSimpArgs false
open Go Go.RowKit Bg
attribute [local go_sem] Oper.semAt_some

namespace Bg
/-- How many of the first ones are other ones. -/
def dfn (d s : List Nat) : Nat → Nat
  | 0 => 0
  | j + 1 => dfn d s j + if d.getD j 0 = s.getD j 0 then 0 else 1
theorem dfn_le (d s : List Nat) : ∀ j, dfn d s j ≤ j
  | 0 => Nat.le_refl _
  | j + 1 => by have := dfn_le d s j; unfold dfn; split <;> omega
theorem dfn_same (d : List Nat) : ∀ j, dfn d d j = 0
  | 0 => rfl
  | j + 1 => by unfold dfn; rw [dfn_same d j]; simp
theorem dfn_zero {d s : List Nat} : ∀ {n}, dfn d s n = 0 → ∀ i, i < n → d.getD i 0 = s.getD i 0
  | 0, _, i, hi => by omega
  | n + 1, h, i, hi => by
    unfold dfn at h
    by_cases e : i = n
    · subst e
      by_cases h2 : d.getD i 0 = s.getD i 0
      · exact h2
      · rw [if_neg h2] at h; omega
    · exact dfn_zero (n := n) (by omega) i (by omega)
theorem xor_ne {a v : Nat} (hv : v ≠ 0) : a ^^^ v ≠ a := by
  intro h
  have := congrArg (a ^^^ ·) h
  simp [← Nat.xor_assoc] at this
  exact hv this
theorem dfn_set {d s : List Nat} {a y : Nat} (hy : y ≠ d.getD a 0) (ha : a < d.length) : ∀ n, n ≤ d.length → (∀ i, i < n → d.getD i 0 = s.getD i 0) → dfn (d.set a y) s n = if a < n then 1 else 0
  | 0, _, _ => by simp [dfn]
  | n + 1, hn, h => by
    have ih := dfn_set (s := s) hy ha n (by omega) (fun i hi => h i (by omega))
    have hk := h n (by omega)
    unfold dfn
    rw [ih]
    have hget : (d.set a y).getD n 0 = if a = n then y else d.getD n 0 := by
      rw [List.getD_eq_getElem?_getD, List.getElem?_set]
      split
      · rename_i e; subst e; simp [ha]
      · rw [List.getD_eq_getElem?_getD]
    rw [hget]
    by_cases e : a = n
    · subst e
      rw [if_pos rfl, ← hk, if_neg hy, if_neg (by omega), if_pos (by omega)]
    · rw [if_neg e, if_pos hk]
      by_cases h1 : a < n
      · rw [if_pos h1, if_pos (by omega)]
      · rw [if_neg h1, if_neg (by omega)]
/-- A packet has the bytes that were sent, but one, if it was spoilt. -/
structure KP (x : Fl) (s : List Nat) : Prop where
  len : x.d.length = s.length
  dif : dfn x.d s x.d.length = if x.s then 1 else 0
/-- All packets have. -/
def KpA (b : St) (g : Int → List Nat) : Prop := ∀ x ∈ b.l, KP x (g x.n)
def upd (g : Int → List Nat) (n : Int) (d : List Nat) : Int → List Nat := fun k => if k = n then d else g k
theorem KpA.zero (g : Int → List Nat) : KpA zero g := fun _ h => absurd h (List.not_mem_nil)
end Bg

theorem strN_size (s : List Nat) : (strN s).size = s.length := by
  show (s.map UInt8.ofNat).toArray.size = s.length
  simp
theorem strN_at {w : World} {s : List Nat} (hs : ∀ c ∈ s, c < 256) {j : Nat} (hj : j < s.length) :
    (Instr.index 9 (.string (strN s)) (.int .i64 (j : Int))).run Try.prog w = .ok (.int .u8 ((s.getD j 0 : Nat) : Int)) w := by
  rw [run_index_string w _ _ _ _ Try.underlying9, dif_pos ⟨by omega, by rw [strN_size]; omega⟩]
  have h1 : ∀ h, ((strN s)[(j : Int).toNat]'h).toNat = s.getD j 0 := by
    intro h
    have hlt := hs _ (List.getElem_mem hj)
    have : ((strN s)[(j : Int).toNat]'h) = UInt8.ofNat s[j] := by
      show (s.map UInt8.ofNat).toArray[(j : Int).toNat]'_ = _
      simp
    rw [this]
    simp [List.getD, hj, Nat.mod_eq_of_lt hlt]
  rw [h1]

set_option maxHeartbeats 4000000 in
theorem kept_any {w : World} {x : Fl} {s : List Nat} {A : Option Addr} (cap : Nat) (hA : BytesAt w A x.d) (hx : ∀ c ∈ x.d, c < 256) (hs : ∀ c ∈ s, c < 256) (h60 : x.d.length ≤ 60) (hk : KP x s) :
    Calls Try.prog 23 #[flA x (.slice A x.d.length cap), .string (strN s)] w fun e w' => e = .returned (.bool true) ∧ Below w.heap.size w w' := by
  obtain ⟨P, hP⟩ : ∃ P : Ending → World → Prop, P = fun e w' => e = .returned (.bool true) ∧ Below w.heap.size w w' := ⟨_, rfl⟩
  have HQ : Hid (∀ w', Below w.heap.size w w' → P (.returned (.bool true)) w') := by rw [hP]; exact fun w' h => ⟨rfl, h⟩
  rw [← hP]
  clear hP
  obtain ⟨hlen, hdif⟩ := hk
  have HI : Hid (∀ j, j < x.d.length → ∀ W, (Instr.index 9 (.string (strN s)) (.int .i64 (j : Int))).run Try.prog W = .ok (.int .u8 ((s.getD j 0 : Nat) : Int)) W) := fun j hj W => strN_at hs (by omega)
  have hsz : (strN s).size = x.d.length := by rw [strN_size, hlen]
  have HA : Hid (∀ W, Below w.heap.size w W → ∀ j, j < x.d.length → ∃ a, A = some a ∧ W.cell? (a.add j) = some (.int .u8 ((x.d.getD j 0 : Nat) : Int)) ∧ x.d.getD j 0 < 256) := fun W hW j hj => by
    obtain ⟨a, e, h⟩ := hA.below hW j hj
    refine ⟨a, e, h, ?_⟩
    rw [List.getD_eq_getElem?_getD, List.getElem?_eq_getElem hj]
    exact hx _ (List.getElem_mem hj)
  have HS : Hid (∀ j, j < x.d.length → s.getD j 0 < 256) := fun j hj => by
    rw [List.getD_eq_getElem?_getD, List.getElem?_eq_getElem (by omega)]
    exact hs _ (List.getElem_mem _)
  have HD := Lib.hid hdif
  have HL : Hid (∀ j, dfn x.d s j ≤ j) := dfn_le _ _
  have HDS : Hid (∀ j, dfn x.d s (j + 1) = dfn x.d s j + if x.d.getD j 0 = s.getD j 0 then 0 else 1) := fun j => rfl
  clear hdif hA hx hs hlen
  obtain ⟨n, f, t, d, sp⟩ := x
  simp only [flA] at *
  generalize strN s = S at *
  generalize hdl : d.length = L at *
  clear hdl
  go_enter Try.func23, Try.ntmps23
  have hw0 : (w.alloc (.cells #[.int .i64 n, .int .i64 f, .int .i64 t, .slice A L cap, .bool sp] 38)).heap[w.heap.size]? = some (.cells #[.int .i64 n, .int .i64 f, .int .i64 t, .slice A L cap, .bool sp] 38 (0, 0)) := World.alloc_heap_new w _
  have HB0 : Hid (Below w.heap.size w (w.alloc (.cells #[.int .i64 n, .int .i64 f, .int .i64 t, .slice A L cap, .bool sp] 38))) := (Below.refl _ w).alloc (Nat.le_refl _) _
  have HW0 := Lib.hid hw0
  clear hw0
  go_wp2
  go_loopw [16, 5] (fun i m wr => ∃ j : Nat, j ≤ L ∧ i = .int .i64 (j : Int) ∧ m = .int .i64 ((dfn d s j : Nat) : Int) ∧ Below w.heap.size w wr ∧ wr.heap[w.heap.size]? = some (.cells #[.int .i64 n, .int .i64 f, .int .i64 t, .slice A L cap, .bool sp] 38 (0, 0))) (fun i _ _ => L - (intOf i).toNat)
  case atStart => exact ⟨0, by omega, rfl, rfl, HB0.out, HW0.out⟩
  case round =>
    obtain ⟨j, hj, rfl, rfl, hb, hobj⟩ := hrel
    have HB := Lib.hid hb
    have HO := Lib.hid hobj
    obtain ⟨⟨_, _, _, z3, z4⟩, _⟩ := five hobj
    have hle := HL.out j
    clear HB0 HW0
    by_cases hlt : j < L
    · have j0 : (0 : Int) ≤ (j : Int) := by omega
      have j1 : (j : Int) < (L : Int) := by omega
      have hix := HI.out j hlt
      have HI2 := Lib.hid hix
      obtain ⟨a, rfl, hc, h256⟩ := HA.out wr.drew (hb.drew) j hlt
      have z3d : wr.drew.cell? ⟨w.heap.size, 3, none⟩ = some (.slice (some a) L cap) := z3
      have hs256 := HS.out j hlt
      have HST := Lib.hid (HDS.out j)
      have HL1 := HL.out (j + 1)
      clear HI HA HS HDS HL hb hobj z3 z4 HD HQ
      generalize hdj : d.getD j 0 = u at *
      generalize hsj : s.getD j 0 = v at *
      clear hdj hsj
      generalize dfn d s j = k at *
      generalize hk1 : dfn d s (j + 1) = k1 at *
      by_cases huv : u = v
      · subst huv
        obtain rfl : k1 = k := by have := HST.out; simpa using this
        go_wp2_with fail
        go_region_held3 (fun W => W = wr.drew) (first | rfl) (fail)
        go_wp2
        go_roundw
        case rel => exact ⟨j + 1, by omega, by go_num, by rw [hk1], HB.out.drew, HO.out⟩
        case measure => simp [intOf]; omega
      · obtain rfl : k1 = k + 1 := by have := HST.out; rw [if_neg huv] at this; exact this
        have huv2 : ¬ (u : Int) = (v : Int) := by omega
        go_wp2_with fail
        go_region_held3 (fun W => W = wr.drew) (first | rfl) (fail)
        go_wp2
        go_roundw
        case rel => exact ⟨j + 1, by omega, by go_num, by rw [hk1]; go_num, HB.out.drew, HO.out⟩
        case measure => simp [intOf]; omega
    · obtain rfl : j = L := by omega
      have HF := Lib.hid (HQ.out wr HB.out)
      have hdd := HD.out
      clear HI HA HS HDS HL hb HQ z3
      cases sp with
      | true =>
        have hd1 : dfn d s j = 1 := hdd
        rw [hd1]
        go_wp2
        first | exact HF.out | (go_ret; exact HF.out)
      | false =>
        have hd1 : dfn d s j = 0 := hdd
        rw [hd1]
        go_wp2
        first | exact HF.out | (go_ret; exact HF.out)
end Go.Proofs.Ytkhlaccabofkcaa
