/-
  What Read takes, as a function; the small closures.
-/
import Derived.Test.YtmfbokaaoffdnaaDoorWr9
namespace Go.Proofs.YtmfbokaaoffdnaaDoor
set_option maxRecDepth 100000
set_option linter.unusedSimpArgs false
open Go Go.RowKit Wr

namespace Wr
abbrev RS := List Nat × Bool
def u32 (x : Int) : Nat := (x % 4294967296).toNat
def u64 (x : Int) : Nat := (x % 18446744073709551616).toNat
def i8 (x : Int) : Int := if x % 256 ≥ 128 then x % 256 - 256 else x % 256
def tkI (wd : Nat) (s : RS) : Int := w64 ((tk wd 0 s).1 : Nat)
def tkS (wd : Nat) (s : RS) : RS := (tk wd 0 s).2
def rdF1 (a : (Nat → Int) × RS) (x : Nat) : (Nat → Int) × RS := (fun j => if j = x then tkI (wid x) a.2 else a.1 j, tkS (wid x) a.2)
def rdF (l : List Nat) (s : RS) : (Nat → Int) × RS := l.foldl rdF1 (fun _ => 0, s)
def rdC : Nat → RS → List (Int × Nat) × RS
  | 0, s => ([], s)
  | n + 1, s => let r := rdC n (tkS 4 (tkS 2 s)); ((tkI 2 s, u32 (tkI 4 (tkS 2 s))) :: r.1, r.2)
def rdM (s : RS) : Msg × RS :=
  let a := rdF (flds (tkI 1 s)) (tkS 1 s)
  let c := rdC (a.1 8).toNat a.2
  (⟨tkI 1 s, a.1 1, u32 (a.1 2), u64 (a.1 3), a.1 4, a.1 5, a.1 6, i8 (a.1 7), c.1⟩, c.2)
def rdP (b : List Nat) : Pkt × RS :=
  let s0 : RS := (b, false)
  let s1 := tkS 1 s0
  let s2 := tkS 1 s1
  let s3 := tkS 4 s2
  let s4 := tkS 4 s3
  let s5 := tkS 4 s4
  let s6 := tkS 4 s5
  let m := rdM s6
  (⟨tkI 1 s0, tkI 1 s1, u32 (tkI 4 s2), u32 (tkI 4 s3), u32 (tkI 4 s4), u32 (tkI 4 s5), m.1⟩, m.2)
def whole (s : RS) : Bool := !s.2 && s.1.isEmpty
def readF (b : List Nat) : Option Pkt := if whole (rdP b).2 && okP (rdP b).1 then some (rdP b).1 else none

theorem tk_len : ∀ (w n : Nat) (s : RS), (tk w n s).2.1.length ≤ s.1.length
  | 0, n, s => Nat.le_refl _
  | w + 1, n, (a :: b :: r, ft) => by
    rw [tk]
    split
    · have := tk_len w (n * 256 + a) (r, ft)
      simp at this ⊢
      omega
    · exact Nat.le_refl _
  | w + 1, n, ([a], ft) => Nat.le_refl _
  | w + 1, n, ([], ft) => Nat.le_refl _
theorem tkS_len (w : Nat) (s : RS) : (tkS w s).1.length ≤ s.1.length := tk_len w 0 s
theorem tk_bd : ∀ (w n : Nat) (s : RS), (∀ c ∈ s.1, c < 256) → (tk w n s).1 < (n + 1) * 256 ^ w
  | 0, n, s, _ => by simp [tk]
  | w + 1, n, (a :: b :: r, ft), h => by
    rw [tk]
    split
    · have h1 := tk_bd w (n * 256 + a) (r, ft) (fun c hc => h c (by simp [hc]))
      have h2 := h a (by simp)
      rw [Nat.pow_succ, Nat.mul_comm (256 ^ w), ← Nat.mul_assoc]
      exact Nat.lt_of_lt_of_le h1 (Nat.mul_le_mul_right _ (by omega))
    · exact Nat.mul_pos (by omega) (Nat.pow_pos (by omega))
  | w + 1, n, ([a], ft), h => Nat.mul_pos (by omega) (Nat.pow_pos (by omega))
  | w + 1, n, ([], ft), h => Nat.mul_pos (by omega) (Nat.pow_pos (by omega))
theorem tkI_bd {w : Nat} {s : RS} (hw : w ≤ 7) (h : ∀ c ∈ s.1, c < 256) : 0 ≤ tkI w s ∧ tkI w s = ((tk w 0 s).1 : Nat) ∧ (tk w 0 s).1 < 256 ^ w := by
  have h1 := tk_bd w 0 s h
  rw [Nat.zero_add, Nat.one_mul] at h1
  have h2 : 256 ^ w ≤ 256 ^ 7 := Nat.pow_le_pow_right (by omega) hw
  have h3 : (256 : Nat) ^ 7 = 72057594037927936 := by decide
  rw [h3] at h2
  unfold tkI w64
  omega
theorem tk_in : ∀ (w n : Nat) (s : RS), (∀ c ∈ s.1, c < 256) → ∀ c ∈ (tk w n s).2.1, c < 256
  | 0, n, s, h => h
  | w + 1, n, (a :: b :: r, ft), h => by
    rw [tk]
    split
    · exact tk_in w _ (r, ft) (fun c hc => h c (by simp [hc]))
    · exact h
  | w + 1, n, ([a], ft), h => h
  | w + 1, n, ([], ft), h => h
theorem tkS_in {w : Nat} {s : RS} (h : ∀ c ∈ s.1, c < 256) : ∀ c ∈ (tkS w s).1, c < 256 := tk_in w 0 s h
end Wr

/-- A number is taken. -/
theorem tkv_any {q f : Nat} {s : RS} {W : World} (h : Rd q f s W) (wd : Nat) (hw : wd ≤ 8) (hs : s.1.length ≤ 100000) (hne : q ≠ f) :
    Calls Tryd.prog 32 #[.int .i64 (wd : Nat), .pointer (some ⟨q, 0, none⟩), .pointer (some ⟨f, 0, none⟩)] W fun e W' => e = .returned (.int .i64 (tkI wd s)) ∧ Rd q f (tkS wd s) W' ∧ Kept (fun k => k = q ∨ k = f) W W' :=
  take_any h wd hw hs hne

set_option maxHeartbeats 400000 in
theorem whole_any {q f : Nat} {s : RS} {W : World} (h : Rd q f s W) :
    Calls Tryd.prog 33 #[.pointer (some ⟨f, 0, none⟩), .pointer (some ⟨q, 0, none⟩)] W fun e W' => e = .returned (.bool (whole s)) ∧ W' = W := by
  obtain ⟨P, hP⟩ : ∃ P : Ending → World → Prop, P = fun e W' => e = .returned (.bool (whole s)) ∧ W' = W := ⟨_, rfl⟩
  have HQ : Hid (∀ b, b = whole s → P (.returned (.bool b)) W) := by rw [hP]; exact fun b e => ⟨by rw [e], rfl⟩
  rw [← hP]
  clear hP
  obtain ⟨A, cap, c1, _, _⟩ := h.cell
  have c2 : W.cell? ⟨f, 0, none⟩ = some (.bool s.2) := by rw [blk_cell h.flt]; rfl
  clear h
  obtain ⟨r, ft⟩ := s
  simp only at c1 c2
  unfold whole at HQ
  simp only at HQ
  cases ft with
  | true =>
    go_enter Tryd.func33, Tryd.ntmps33
    go_wp2
    first | exact HQ.out _ rfl | (go_ret; exact HQ.out _ rfl)
  | false =>
    have d1 : ((r.length : Int) == 0) = r.isEmpty := by cases r <;> simp; omega
    generalize r.isEmpty = b at *
    generalize r.length = n at *
    go_enter Tryd.func33, Tryd.ntmps33
    go_wp2
    first | exact HQ.out _ (by simp) | (go_ret; exact HQ.out _ (by simp))

set_option maxHeartbeats 400000 in
theorem taker_any (w : World) (A : Option Addr) (n cap : Nat) :
    Calls Tryd.prog 27 #[.slice A n cap] w fun e w' => e = .returned (.tuple #[.func (.func 32) #[] #[.pointer (some ⟨w.heap.size, 0, none⟩), .pointer (some ⟨w.heap.size + 1, 0, none⟩)], .func (.func 33) #[] #[.pointer (some ⟨w.heap.size + 1, 0, none⟩), .pointer (some ⟨w.heap.size, 0, none⟩)]]) ∧ w' = (w.alloc (.cells #[.slice A n cap] 34)).alloc (.cells #[.bool false] 4) := by
  have hmf : ∀ (fn : Fn) (first cap : Array Value) (w : World), (Instr.makeFunc fn first cap).run Tryd.prog w = .ok (.func fn first cap) w := fun _ _ _ _ => rfl
  go_enter Tryd.func27, Tryd.ntmps27
  go_wp2
  refine bodyPost_ret (v := .tuple #[.func (.func 32) #[] #[.pointer (some ⟨w.heap.size, 0, none⟩), .pointer (some ⟨w.heap.size + 1, 0, none⟩)], .func (.func 33) #[] #[.pointer (some ⟨w.heap.size + 1, 0, none⟩), .pointer (some ⟨w.heap.size, 0, none⟩)]]) (by simp [results, Tryd.results27, go_sem]) rfl ⟨rfl, ?_⟩
  rfl
end Go.Proofs.YtmfbokaaoffdnaaDoor
