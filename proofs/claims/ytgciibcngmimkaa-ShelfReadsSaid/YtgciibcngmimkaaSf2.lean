/-
  Check, place, Len; slices.Clone of bytes; the iterator made.
-/
import Derived.Test.YtgciibcngmimkaaSf1
import Derived.Shelf.Abstract
import Derived.Shelf.RegionOpen
import Derived.Deep.QuietTactic
import Derived.BigQuiet
import Derived.Lib.SliceRun
import Derived.IntWalk
import Derived.Laws.BitsAllLaws
namespace Go.Proofs.Ytgciibcngmimkaa
set_option maxRecDepth 100000
set_option linter.unusedSimpArgs false
open Go Go.RowKit Sf

theorem Try.infoU8 : (Try.prog.info? 5).map (fun i => (i.zero, i.size, i.bytes)) = some (some (.int .u8 0), 1, 1) := by kernel_rfl
theorem Try.infoRec : (Try.prog.info? 32).map (fun i => (i.zero, i.size, i.bytes)) = some (some (.agg #[.int .i64 0, .int .i64 0, .slice none 0 0]), 3, 40) := by kernel_rfl

/-- A record by value. -/
@[reducible] def recA (k n : Int) (A : Option Addr) (len cap : Nat) : Value := .agg #[.int .i64 k, .int .i64 n, .slice A len cap]
@[reducible] def recO (k n : Int) (A : Option Addr) (len cap : Nat) : Obj := .cells #[.int .i64 k, .int .i64 n, .slice A len cap] 32 (0, 0)
def ckB (k n : Int) (len : Nat) : Bool := decide (0 ≤ k) && decide (k ≤ 255) && decide (0 ≤ n) && decide (n ≤ 1024) && decide (len ≤ 1024)
theorem ckB_may (r : Rec) : ckB r.k r.n r.d.length = may r := rfl
def ckV (k n : Int) (len : Nat) : Value := .int .i64 (if ckB k n len then 0 else 130)
set_option maxHeartbeats 1000000 in
theorem check_any (w : World) (k n : Int) (A : Option Addr) (len cap : Nat) :
    Calls Try.prog 10 #[recA k n A len cap] w fun e w' => e = .returned (ckV k n len) ∧ w' = w.alloc (recO k n A len cap) := by
  obtain ⟨P, hP⟩ : ∃ P : Ending → World → Prop, P = fun e w' => e = .returned (ckV k n len) ∧ w' = w.alloc (recO k n A len cap) := ⟨_, rfl⟩
  have HB : Hid ((k < 0 ∨ 255 < k ∨ n < 0 ∨ 1024 < n ∨ 1024 < len) → P (.returned (.int .i64 130)) (w.alloc (recO k n A len cap))) := by
    intro h; rw [hP]
    have : ckB k n len = false := by
      rw [← Bool.not_eq_true]; unfold ckB; simp only [Bool.and_eq_true, decide_eq_true_eq]; omega
    exact ⟨by rw [ckV, this]; rfl, rfl⟩
  have HG : Hid ((0 ≤ k ∧ k ≤ 255 ∧ 0 ≤ n ∧ n ≤ 1024 ∧ len ≤ 1024) → P (.returned (.int .i64 0)) (w.alloc (recO k n A len cap))) := by
    intro h; rw [hP]
    have : ckB k n len = true := by unfold ckB; simp only [Bool.and_eq_true, decide_eq_true_eq]; omega
    exact ⟨by rw [ckV, this]; rfl, rfl⟩
  rw [← hP]
  clear hP
  by_cases h1 : k < 0
  · have HF := Lib.hid (HB.out (.inl h1))
    have e1 : decide (k < 0) = true := by simpa using h1
    clear HB HG h1
    go_enter Try.func10, Try.ntmps10
    go_wp2
    exact HF.out
  have e1 : decide (k < 0) = false := by simpa using h1
  by_cases h2 : 255 < k
  · have HF := Lib.hid (HB.out (.inr (.inl h2)))
    have e2 : decide (255 < k) = true := by simpa using h2
    clear HB HG h1 h2
    go_enter Try.func10, Try.ntmps10
    go_wp2
    exact HF.out
  have e2 : decide (255 < k) = false := by simpa using h2
  by_cases h3 : n < 0
  · have HF := Lib.hid (HB.out (.inr (.inr (.inl h3))))
    have e3 : decide (n < 0) = true := by simpa using h3
    clear HB HG h1 h2 h3
    go_enter Try.func10, Try.ntmps10
    go_wp2
    exact HF.out
  have e3 : decide (n < 0) = false := by simpa using h3
  by_cases h4 : 1024 < n
  · have HF := Lib.hid (HB.out (.inr (.inr (.inr (.inl h4)))))
    have e4 : decide (1024 < n) = true := by simpa using h4
    clear HB HG h1 h2 h3 h4
    go_enter Try.func10, Try.ntmps10
    go_wp2
    exact HF.out
  have e4 : decide (1024 < n) = false := by simpa using h4
  by_cases h5 : 1024 < len
  · have HF := Lib.hid (HB.out (.inr (.inr (.inr (.inr h5)))))
    have e5 : decide (1024 < (len : Int)) = true := by simp; omega
    have e5' : decide (1024 < len) = true := by simpa using h5
    clear HB HG h1 h2 h3 h4 h5
    go_enter Try.func10, Try.ntmps10
    go_wp2
    exact HF.out
  · have HF := Lib.hid (HG.out ⟨by omega, by omega, by omega, by omega, by omega⟩)
    have e5 : decide (1024 < (len : Int)) = false := by simp; omega
    have e5' : decide (1024 < len) = false := by simpa using h5
    clear HB HG h1 h2 h3 h4 h5
    go_enter Try.func10, Try.ntmps10
    go_wp2
    exact HF.out

theorem len_none (w : World) : Calls Try.prog 14 #[.pointer none] w fun e w' => e = .returned (.int .i64 ((0 : Nat) : Int)) ∧ w = w' := by
  go_enter Try.func14, Try.ntmps14
  go_wp2
  go_ret
  exact ⟨rfl, rfl⟩
theorem len_any {w : World} {b N : Nat} {mo : Option Nat} {M : List Ent} (h : ShAt w b mo N M) : Calls Try.prog 14 #[.pointer (some ⟨b, 0, none⟩)] w fun e w' => e = .returned (.int .i64 (M.length : Nat)) ∧ w = w' := by
  have c0 := blk_cell h.blk 0
  simp at c0
  cases mo with
  | none =>
    obtain rfl := h.none_ rfl
    have hl := fun ty => Maps.len_nil (w := w) Try.underlying25 ty
    clear h
    go_enter Try.func14, Try.ntmps14
    go_wp2
    go_ret
    exact ⟨rfl, rfl⟩
  | some m =>
    have hl := (h.some_ m rfl).len h.ok.srt
    clear h
    generalize M.length = L at *
    go_enter Try.func14, Try.ntmps14
    go_wp2
    go_ret
    exact ⟨rfl, rfl⟩
theorem told_any (w : World) (v : Option Addr) : Calls Try.prog 31 #[.pointer v] w fun e w' => e = .returned (.func (.func 36) #[] #[.pointer (some ⟨w.heap.size, 0, none⟩)]) ∧ w' = w.alloc (.cells #[.pointer v] 24) := by
  go_enter Try.func31, Try.ntmps31
  go_wp2
  go_ret
  exact ⟨rfl, rfl⟩

/-- slices.Clone of bytes: of a block of its own. -/
theorem clone_any {w : World} {A : Option Addr} {l : List Nat} {cap : Nat} (h : BytesAt w A l) (hA : A = none → l = [] ∧ cap = 0) (hl : l.length ≤ 100000) :
    Calls Try.prog 28 #[.slice A l.length cap] w fun e w' => ∃ v', e = .returned v' ∧ w'.ownsRow w.heap.size 5 1 v' l.length (l.map byV) ∧ Below w.heap.size w w' := by
  obtain ⟨i0, hi, hz0, hz1, hz2⟩ := info_parts Try.infoU8
  have q34 : ∀ (w : World) (a : Option Addr) (n c n' c' : Nat), (binOp .eql 30 (.slice a n c) (.slice none n' c')).run Try.prog w = .ok (.bool a.isNone) w := fun w a n c n' c' => Lib.run_eql_slice_nil w _ _ a n c n' c' Try.underlying30
  cases A with
  | none =>
    obtain ⟨rfl, rfl⟩ := hA rfl
    clear h hA
    go_enter Try.func28, Try.ntmps28
    go_wp2
    go_ret
    exact ⟨_, rfl, World.ownsRow_nil _ _ _ _, Below.refl _ _⟩
  | some ad =>
    have H : Hid (∀ j u, (l.map byV)[j]? = some u → w.cell? (ad.add j) = some u) := by
      intro j u hu
      have hj : j < l.length := by
        rcases Nat.lt_or_ge j l.length with h | h
        · exact h
        · rw [List.getElem?_eq_none (by simpa using h)] at hu; cases hu
      obtain ⟨a', e1, h2⟩ := h j hj
      cases e1
      rw [h2, ← hu]
      simp [List.getD, hj]
    clear h hA
    have h1 := byV_one l
    have hlm : (l.map byV).length = l.length * 1 := by simp
    generalize l.map byV = xs at *
    generalize l.length = n at *
    go_enter Try.func28, Try.ntmps28
    go_wp2_with (at_builtin; refine wpList_append_own _ rfl _ _ 30 rfl w.heap.size 5 i0 (.int .u8 0) 1 1 Try.underlying30 hi hz0 hz1 hz2 rfl (by decide) _ _ _ rfl (World.ownsRow_made w #[] 0 (Nat.le_refl _) (Nat.zero_le _) (by simp)) ad n cap xs rfl ?qc1 ?qc2 ?qc3 ?qc4 ?qc5 ?qc6 ?_)
    case qc1 => exact hlm
    case qc2 =>
      intro j u hj
      exact Lib.cell?_alloc_some _ (H.out j u hj)
    case qc3 => exact h1
    case qc4 => unfold maxLen; omega
    case qc5 => omega
    case qc6 => simp
    intro v' w1 hown hgrow _
    go_wp2
    go_ret
    exact ⟨v', rfl, by simpa using hown, ((Below.refl _ w).alloc (Nat.le_refl _) _).grown hgrow (by simp) (by intro k hk; simp [Value.ownBlock] at hk; omega)⟩
theorem clone8 {w : World} {v : Value} {l : List Nat} (h : R8 w v l) (hl : l.length ≤ 100000) :
    Calls Try.prog 28 #[v] w fun e w' => ∃ v', e = .returned v' ∧ w'.ownsRow w.heap.size 5 1 v' l.length (l.map byV) ∧ Below w.heap.size w w' := by
  obtain ⟨A, cap, rfl, h1, h2, h3, h4⟩ := row_bytes h
  exact clone_any h1 h4 hl

theorem i64_nat {n : Nat} (h : n < 4611686018427387904) : IntKind.i64.wrap (n : Int) = (n : Int) := IntWalk.i64_in _ (by omega)
theorem or_i64_nat {a b : Nat} (ha : a < 4611686018427387904) (hb : b < 4611686018427387904) : bits .or .i64 (a : Int) (b : Int) = ((a ||| b : Nat) : Int) := by
  show IntKind.i64.wrap ((BitVec.ofInt 64 (a : Int) ||| BitVec.ofInt 64 (b : Int)).toNat : Int) = _
  have h1 := Nat.or_lt_two_pow (n := 62) ha hb
  rw [BitVec.toNat_or, BitVec.ofInt_natCast, BitVec.ofInt_natCast, BitVec.toNat_ofNat, BitVec.toNat_ofNat, Nat.mod_eq_of_lt (by omega : a < 2 ^ 64), Nat.mod_eq_of_lt (by omega : b < 2 ^ 64)]
  exact i64_nat h1
theorem and_i64_nat {a b : Nat} (ha : a < 4611686018427387904) (hb : b < 4611686018427387904) : bits .and .i64 (a : Int) (b : Int) = ((a &&& b : Nat) : Int) := by
  show IntKind.i64.wrap ((BitVec.ofInt 64 (a : Int) &&& BitVec.ofInt 64 (b : Int)).toNat : Int) = _
  have h1 : a &&& b ≤ a := Nat.and_le_left
  rw [BitVec.toNat_and, BitVec.ofInt_natCast, BitVec.ofInt_natCast, BitVec.toNat_ofNat, BitVec.toNat_ofNat, Nat.mod_eq_of_lt (by omega : a < 2 ^ 64), Nat.mod_eq_of_lt (by omega : b < 2 ^ 64)]
  exact i64_nat (by omega)
theorem join_16 {k n : Nat} (hk : k < 16777216) (hn : n < 65536) : bits .or .i64 ((k : Int) * 65536) (n : Int) = ((k * 65536 + n : Nat) : Int) := by
  rw [show (k : Int) * 65536 = ((k * 65536 : Nat) : Int) by omega, or_i64_nat (by omega) (by omega), nat_join 16 (k * 65536) n (by omega) hn]
theorem join_8 {k n : Nat} (hk : k < 16777216) (hn : n < 256) : bits .or .i64 ((k : Int) * 256) (n : Int) = ((k * 256 + n : Nat) : Int) := by
  rw [show (k : Int) * 256 = ((k * 256 : Nat) : Int) by omega, or_i64_nat (by omega) (by omega), nat_join 8 (k * 256) n (by omega) hn]
theorem low_16 {p : Nat} (hp : p < 16777216 * 65536) : bits .and .i64 (p : Int) 65535 = ((p % 65536 : Nat) : Int) := by
  have := and_i64_nat (a := p) (b := 65535) (by omega) (by omega)
  rw [nat_mask16] at this
  exact this
theorem place_any (w : World) {k n : Nat} (hk : k < 16777216) (hn : n < 65536) :
    Calls Try.prog 27 #[.int .i64 (k : Int), .int .i64 (n : Int)] w fun e w' => e = .returned (.int .i64 ((k * 65536 + n : Nat) : Int)) ∧ w = w' := by
  have HX := Lib.hid (join_16 hk hn)
  go_enter Try.func27, Try.ntmps27
  go_wp2
  rw [HX.out]
  go_ret
  exact ⟨rfl, rfl⟩
end Go.Proofs.Ytgciibcngmimkaa
