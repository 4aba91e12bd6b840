/- Joined texts: Pure, W1, W3, W4. -/
import Derived.Test.YtekhlaodlagbdaaGreatDoorRows
import Derived.WalkKit
import Derived.WalkSpells
import Derived.WalkLawsBesides
import Derived.Lib.Bytealg

/-
  Plain facts on a warehouse map's text: a list of bytes read row by row. No program stands here.
-/
namespace Go.Proofs.YtekhlaodlagbdaaGreatDoor
namespace Pure

/-- Is a byte a cell's? -/
def okc (c : UInt8) : Bool := c == 35 || c == 46 || c == 60 || c == 62 || c == 94 || c == 118

/-- How many cells the rows have. -/
def wid (L : List (List UInt8)) : Nat := (L.headD []).length

/-- How many cells a row may have at most. -/
def most (L : List (List UInt8)) : Nat := if L = [] then 32 else wid L

/-- May a byte stand behind the rows L and the cells r? -/
def fits (L : List (List UInt8)) (r : List UInt8) (c : UInt8) : Bool :=
  decide (L.length < 32) && (if c = 10 then decide (0 < r.length) && decide (L = [] ∨ r.length = wid L) else okc c && decide (r.length < most L))

def parse : List UInt8 → List (List UInt8) → List UInt8 → Bool × List (List UInt8) × List UInt8
  | [], L, r => (true, L, r)
  | c :: s, L, r => if fits L r c = true then (if c = 10 then parse s (L ++ [r]) [] else parse s L (r ++ [c])) else (false, L, r)

/-- What a text comes to: an error's line and column, or rows. -/
inductive Res
  | bad (l c : Nat)
  | good (L : List (List UInt8))

def wall (L : List (List UInt8)) : Bool := L.flatten.all (· == 35)

def fin : Bool × List (List UInt8) × List UInt8 → Res
  | (false, L, r) => .bad (L.length + 1) (r.length + 1)
  | (true, L, r) => if L = [] ∨ r ≠ [] then .bad (L.length + 1) (r.length + 1) else if wall L = true then .bad 0 0 else .good L

def verdict (s : List UInt8) : Res := fin (parse s [] [])

/-- What holds of the rows so far, and of the cells behind them. -/
structure Inv (L : List (List UInt8)) (r : List UInt8) : Prop where
  len : L.length ≤ 32
  last : L.length = 32 → r = []
  row : ∀ x ∈ L, x.length = wid L
  pos : L ≠ [] → 1 ≤ wid L ∧ wid L ≤ 32
  cur : r.length ≤ most L
  ok : ∀ x ∈ L, ∀ c ∈ x, okc c = true
  okr : ∀ c ∈ r, okc c = true

theorem inv_nil : Inv [] [] := ⟨by simp, by simp, by simp, by simp, by simp, by simp, by simp⟩

theorem most_le {L : List (List UInt8)} {r : List UInt8} (h : Inv L r) : most L ≤ 32 := by
  unfold most; split
  · omega
  · rename_i hn; exact (h.pos hn).2

theorem wid_snoc (L : List (List UInt8)) (r : List UInt8) (h : L ≠ []) : wid (L ++ [r]) = wid L := by
  cases L with
  | nil => exact absurd rfl h
  | cons a l => rfl
theorem wid_one (r : List UInt8) : wid [r] = r.length := rfl

theorem okc_ten : okc 10 = false := by decide
theorem okc_zero : okc 0 = false := by decide

theorem fits_ten {L : List (List UInt8)} {r : List UInt8} (h : fits L r 10 = true) : L.length < 32 ∧ 0 < r.length ∧ (L = [] ∨ r.length = wid L) := by
  simpa [fits, Bool.and_eq_true] using h

theorem fits_cell {L : List (List UInt8)} {r : List UInt8} {c : UInt8} (hc : c ≠ 10) (h : fits L r c = true) : L.length < 32 ∧ okc c = true ∧ r.length < most L := by
  simpa [fits, Bool.and_eq_true, hc] using h

theorem inv_row {L : List (List UInt8)} {r : List UInt8} (h : Inv L r) (hf : fits L r 10 = true) : Inv (L ++ [r]) [] := by
  obtain ⟨h1, h2, h3⟩ := fits_ten hf
  by_cases hL : L = []
  · subst hL
    have hm := h.cur
    simp [most] at hm
    refine ⟨by simp, by simp, by simp [wid], ?_, by simp, ?_, by simp⟩
    · intro _; simp only [List.nil_append, wid_one]; omega
    · intro x hx; simp at hx; subst hx; exact h.okr
  · have hw := wid_snoc L r hL
    have h3' : r.length = wid L := by simpa [hL] using h3
    refine ⟨by simp; omega, by simp, ?_, ?_, by simp, ?_, by simp⟩
    · intro x hx
      rw [hw]
      rcases List.mem_append.1 hx with hx | hx
      · exact h.row x hx
      · simp at hx; subst hx; exact h3'
    · intro _; rw [hw]; exact h.pos hL
    · intro x hx
      rcases List.mem_append.1 hx with hx | hx
      · exact h.ok x hx
      · simp at hx; subst hx; exact h.okr

theorem inv_cell {L : List (List UInt8)} {r : List UInt8} {c : UInt8} (h : Inv L r) (hc : c ≠ 10) (hf : fits L r c = true) : Inv L (r ++ [c]) := by
  obtain ⟨h1, h2, h3⟩ := fits_cell hc hf
  refine ⟨h.len, by omega, h.row, h.pos, by simp; omega, h.ok, ?_⟩
  intro x hx
  rcases List.mem_append.1 hx with hx | hx
  · exact h.okr x hx
  · simp at hx; subst hx; exact h2

/-- A map's text. -/
def text (L : List (List UInt8)) : List UInt8 := L.flatMap (· ++ [10])

theorem text_snoc (L : List (List UInt8)) (r : List UInt8) : text (L ++ [r]) = text L ++ r ++ [10] := by simp [text]

/-- What is read is what stands there, and keeps what holds of rows. -/
theorem parse_inv (s : List UInt8) : ∀ L r, Inv L r → Inv (parse s L r).2.1 (parse s L r).2.2 := by
  induction s with
  | nil => intro L r h; exact h
  | cons c s ih =>
    intro L r h
    unfold parse
    split
    · rename_i hf
      split
      · rename_i hc; subst hc; exact ih _ _ (inv_row h hf)
      · rename_i hc; exact ih _ _ (inv_cell h hc hf)
    · exact h

theorem parse_text (s : List UInt8) : ∀ L r, (parse s L r).1 = true → text (parse s L r).2.1 ++ (parse s L r).2.2 = text L ++ r ++ s := by
  induction s with
  | nil => intro L r _; simp [parse]
  | cons c s ih =>
    intro L r
    unfold parse
    split
    · split
      · rename_i hc; subst hc
        intro h; rw [ih _ _ h, text_snoc]; simp
      · intro h; rw [ih _ _ h]; simp
    · intro h; cases h

/-- A map: at least one row, no cell behind, each row as long. -/
structure Good (L : List (List UInt8)) : Prop where
  ne : L ≠ []
  len : L.length ≤ 32
  row : ∀ x ∈ L, x.length = wid L
  lo : 1 ≤ wid L
  hi : wid L ≤ 32
  ok : ∀ x ∈ L, ∀ c ∈ x, okc c = true
  free : wall L = false

theorem good_of {s : List UInt8} {L : List (List UInt8)} (h : verdict s = .good L) : Good L ∧ text L = s := by
  have hi := parse_inv s [] [] inv_nil
  have ht := parse_text s [] []
  unfold verdict at h
  generalize parse s [] [] = q at h hi ht
  obtain ⟨b, L', r'⟩ := q
  cases b with
  | false => simp [fin] at h
  | true =>
    simp only [fin] at h
    split at h
    · cases h
    · rename_i h1
      split at h
      · cases h
      · rename_i h2
        have hn : L' ≠ [] := fun e => h1 (Or.inl e)
        have hr : r' = [] := Decidable.of_not_not (fun e => h1 (Or.inr e))
        cases h
        subst hr
        refine ⟨⟨hn, hi.len, hi.row, (hi.pos hn).1, (hi.pos hn).2, hi.ok, by simpa using h2⟩, ?_⟩
        simpa [text] using ht rfl

theorem flat_len {n : Nat} : ∀ (L : List (List UInt8)), (∀ x ∈ L, x.length = n) → L.flatten.length = L.length * n := by
  intro L
  induction L with
  | nil => intro _; simp
  | cons a L ih =>
    intro h
    have h1 := h a (by simp)
    have h2 := ih (fun x hx => h x (by simp [hx]))
    simp only [List.flatten_cons, List.length_append, List.length_cons, h1, h2, Nat.add_mul]; omega

theorem Good.size {L : List (List UInt8)} (h : Good L) : L.flatten.length = L.length * wid L := flat_len L h.row

theorem Good.small {L : List (List UInt8)} (h : Good L) : L.flatten.length ≤ 1024 := by
  rw [h.size]; exact Nat.le_trans (Nat.mul_le_mul h.len h.hi) (by decide)

/-- Cell n of the rows. -/
theorem flat_at {n : Nat} (hn : 0 < n) : ∀ (L : List (List UInt8)), (∀ x ∈ L, x.length = n) → ∀ k, L.flatten[k]? = (L[k / n]?).bind (fun r => r[k % n]?) := by
  intro L
  induction L with
  | nil => intro _ k; simp
  | cons a L ih =>
    intro h k
    have h1 := h a (by simp)
    have h2 := ih (fun x hx => h x (by simp [hx]))
    rw [List.flatten_cons]
    by_cases hk : k < n
    · rw [List.getElem?_append_left (by omega), Nat.div_eq_of_lt hk, Nat.mod_eq_of_lt hk]; simp
    · rw [List.getElem?_append_right (by omega), h1, h2]
      have e1 : k / n = (k - n) / n + 1 := by
        rw [show k = (k - n) + n by omega, Nat.add_div_right _ hn]; congr 1
        simp
      have e2 : k % n = (k - n) % n := by
        conv => lhs; rw [show k = (k - n) + n by omega]
        exact Nat.add_mod_right _ _
      rw [e1, e2]; simp

theorem parse_take {s : List UInt8} {L : List (List UInt8)} {r : List UInt8} {c : UInt8} (h : fits L r c = true) (hc : c ≠ 10) : parse (c :: s) L r = parse s L (r ++ [c]) := by
  rw [parse, if_pos h, if_neg hc]
theorem parse_line {s : List UInt8} {L : List (List UInt8)} {r : List UInt8} (h : fits L r 10 = true) : parse (10 :: s) L r = parse s (L ++ [r]) [] := by
  rw [parse, if_pos h, if_pos rfl]
theorem parse_stop {s : List UInt8} {L : List (List UInt8)} {r : List UInt8} {c : UInt8} (h : fits L r c = false) : parse (c :: s) L r = (false, L, r) := by
  rw [parse, if_neg (by simp [h])]

/-- How many cells there are so far. -/
theorem inv_size {L : List (List UInt8)} {r : List UInt8} (h : Inv L r) : L.flatten.length + r.length ≤ 1056 := by
  have h1 := flat_len L h.row
  have h2 := most_le h
  have h3 := h.cur
  have h4 : L.length * wid L ≤ 32 * 32 := by
    by_cases hL : L = []
    · subst hL; simp
    · exact Nat.mul_le_mul h.len (h.pos hL).2
  omega

theorem wid_row {L : List (List UInt8)} {r : List UInt8} (hf : fits L r 10 = true) : wid (L ++ [r]) = r.length := by
  obtain ⟨_, _, h3⟩ := fits_ten hf
  by_cases hL : L = []
  · subst hL; rfl
  · rw [wid_snoc L r hL]
    rcases h3 with h3 | h3
    · exact absurd h3 hL
    · exact h3.symm
end Pure
end Go.Proofs.YtekhlaodlagbdaaGreatDoor

/-
  The small functions' walks.
-/
namespace Go.Proofs.YtekhlaodlagbdaaGreatDoor
set_option maxRecDepth 100000
open Go.RowKit

def IdxPost (c : UInt8) (w : World) (e : Ending) (w' : World) : Prop := (∃ n : Int, e = .returned (.int .i64 n) ∧ decide (0 ≤ n) = Pure.okc c) ∧ w = w'

theorem idx_num (c : UInt8) : decide (0 ≤ Lib.indexByte [46, 35, 94, 62, 118, 60] c) = Pure.okc c := by
  have h : ∀ n : Fin 256, decide (0 ≤ Lib.indexByte [46, 35, 94, 62, 118, 60] (UInt8.ofNat n.val)) = Pure.okc (UInt8.ofNat n.val) := by decide +kernel
  have := h ⟨c.toNat, c.toNat_lt⟩
  simpa using this

theorem okc_nat (c : UInt8) : Pure.okc c = ((c.toNat : Int) == 35 || (c.toNat : Int) == 46 || (c.toNat : Int) == 60 || (c.toNat : Int) == 62 || (c.toNat : Int) == 94 || (c.toNat : Int) == 118) := by
  have h : ∀ n : Fin 256, Pure.okc (UInt8.ofNat n.val) = ((n.val : Int) == 35 || (n.val : Int) == 46 || (n.val : Int) == 60 || (n.val : Int) == 62 || (n.val : Int) == 94 || (n.val : Int) == 118) := by decide +kernel
  have := h ⟨c.toNat, c.toNat_lt⟩
  simpa using this

theorem idx_run (s : ByteArray) (c : Int) (w : World) : (callFunc 142 #[.string s, .int .u8 c]).run Tryz.prog w = .ok (.value (.int .i64 (Lib.indexByte s.data.toList c.toNat.toUInt8))) w := by
  rw [run_callFunc_extern Tryz.func142 (by kernel_rfl) (by kernel_rfl) (by kernel_rfl) (e := Extern.BytealgIndexByte.indexByte) (by kernel_rfl), Lib.run_indexByteString]
  simp only [Result.andThen]

set_option maxHeartbeats 400000 in
theorem idx_any (c : UInt8) (w : World) :
    Calls Tryz.prog 84 #[.string ⟨#[46, 35, 94, 62, 118, 60]⟩, .int .u8 (c.toNat : Int)] w (IdxPost c w) := by
  have h := fun (w : World) => idx_run ⟨#[46, 35, 94, 62, 118, 60]⟩ (c.toNat : Int) w
  go_enter Tryz.func84, Tryz.ntmps84
  go_wp2
  go_ret
  refine ⟨⟨_, rfl, ?_⟩, rfl⟩
  exact idx_num c

set_option maxHeartbeats 400000 in
/-- The document's 'cell'. -/
theorem cell_any (c : UInt8) (w : World) :
    Calls Tryz.prog 51 #[.int .u8 (c.toNat : Int)] w fun e w' => e = .returned (.bool (Pure.okc c)) ∧ w = w' := by
  go_enter Tryz.func51, Tryz.ntmps51
  go_wp2
  all_goals
    go_ret
    refine ⟨?_, rfl⟩
    rw [okc_nat]
    simp [*]

set_option maxHeartbeats 400000 in
theorem cells_any (b : Nat) (a : Option Addr) (n k : Nat) (w : World) (h : w.cell? ⟨b, 2, none⟩ = some (.slice a n k)) :
    Calls Tryz.prog 15 #[.pointer (some ⟨b, 0, none⟩)] w fun e w' => e = .returned (.int .i64 (n : Int)) ∧ w = w' := by
  go_enter Tryz.func15, Tryz.ntmps15
  go_wp2
  go_ret
  exact ⟨rfl, rfl⟩

theorem ret_bool {a b : Bool} (h : a = b) : Ending.returned (.bool a) = .returned (.bool b) := by rw [h]
theorem ten_iff (c : UInt8) : c = 10 ↔ (c.toNat : Int) = 10 := by
  constructor
  · rintro rfl; rfl
  · intro h; apply UInt8.toNat_inj.1; show c.toNat = 10; omega

/-- What 'takes' answers. -/
def takesB (c : UInt8) (line col cols : Nat) : Bool :=
  !decide (32 < line) && (if c = 10 then (if line = 1 then decide (1 < col) else decide (col = cols + 1)) else Pure.okc c && decide (col ≤ if 1 < line then cols else 32))

set_option maxHeartbeats 400000 in
theorem takes_any (b : Nat) (c : UInt8) (line col cols : Nat) (w : World) (h : w.cell? ⟨b, 1, none⟩ = some (.int .i64 (cols : Int))) (h1 : line ≤ 100) (h2 : col ≤ 100) (h3 : cols ≤ 100) :
    Calls Tryz.prog 50 #[.pointer (some ⟨b, 0, none⟩), .int .u8 (c.toNat : Int), .int .i64 (line : Int), .int .i64 (col : Int)] w fun e w' => e = .returned (.bool (takesB c line col cols)) ∧ w = w' := by
  go_enter Tryz.func50, Tryz.ntmps50
  go_wp2_with (go_at_call 84; refine (idx_any c _).mono ?_; rintro e w' ⟨⟨n, rfl, hn⟩, rfl⟩)
  all_goals
    go_ret
    refine ⟨ret_bool ?_, rfl⟩
    rw [Bool.eq_iff_iff]
    simp only [takesB, ten_iff]
    simp_all
    try (first | omega | (split <;> omega))

end Go.Proofs.YtekhlaodlagbdaaGreatDoor

/-
  The walks of grid.Map's questions on cells.
-/
namespace Go.Proofs.YtekhlaodlagbdaaGreatDoor
set_option maxRecDepth 100000
open Go.RowKit

def byteV (c : UInt8) : Value := .int .u8 (c.toNat : Int)

set_option maxHeartbeats 400000 in
theorem has_any (b n cap : Nat) (a : Option Addr) (i : Int) (w : World) (hm : w.cell? ⟨b, 2, none⟩ = some (.slice a n cap)) :
    Calls Tryz.prog 72 #[.pointer (some ⟨b, 0, none⟩), .int .i64 i] w fun e w' => e = .returned (.bool (decide (0 ≤ i) && decide (i < (n : Int)))) ∧ w = w' := by
  by_cases h : 0 ≤ i
  all_goals
    go_enter Tryz.func72, Tryz.ntmps72
    go_wp2_with (go_at_call 15; refine (cells_any _ _ _ _ _ hm).mono ?_; rintro e w' ⟨rfl, rfl⟩)
    go_ret
    exact ⟨by first | (simp [h]; done) | (simp; omega), rfl⟩

/-- Is a cell free? -/
def freeB (ms : List UInt8) (i : Int) : Bool := decide (0 ≤ i) && decide (i < (ms.length : Int)) && (ms.getD i.toNat 0 != 35)
/-- A cell's character; 0: there is no such cell. -/
def kindB (ms : List UInt8) (i : Int) : UInt8 := if 0 ≤ i ∧ i < (ms.length : Int) then ms.getD i.toNat 0 else 0

theorem neq35 (c : UInt8) : ((c.toNat : Int) != 35) = (c != 35) := by
  have h : ∀ n : Fin 256, ((n.val : Int) != 35) = (UInt8.ofNat n.val != 35) := by decide +kernel
  have := h ⟨c.toNat, c.toNat_lt⟩
  simpa using this

set_option maxHeartbeats 400000 in
theorem free_any (b g cap : Nat) (ms : List UInt8) (i : Int) (w : World) (hm : w.cell? ⟨b, 2, none⟩ = some (.slice (some ⟨g, 0, none⟩) ms.length cap))
    (hc : ∀ j, j < ms.length → w.cell? ⟨g, j, none⟩ = some (byteV (ms.getD j 0))) :
    Calls Tryz.prog 48 #[.pointer (some ⟨b, 0, none⟩), .int .i64 i] w fun e w' => e = .returned (.bool (freeB ms i)) ∧ w = w' := by
  by_cases h : 0 ≤ i ∧ i < (ms.length : Int)
  · obtain ⟨k, rfl⟩ := Int.eq_ofNat_of_zero_le h.1
    have hk : k < ms.length := by omega
    have hck : w.cell? ⟨g, k, none⟩ = some (.int .u8 ((ms.getD k 0).toNat : Int)) := hc k hk
    have hfr : freeB ms (k : Int) = (((ms.getD k 0).toNat : Int) != 35) := by rw [neq35]; simp [freeB, hk]
    have HF := hfr
    rw [hfr]
    generalize ms.getD k 0 = c at hck hfr HF
    clear hc h HF hfr
    have hb : (decide (0 ≤ (k : Int)) && decide ((k : Int) < (ms.length : Int))) = true := by simp [hk]
    go_enter Tryz.func48, Tryz.ntmps48
    go_wp2_with (go_at_call 72; refine (has_any _ _ _ _ _ _ hm).mono ?_; rintro e w' ⟨rfl, rfl⟩; rw [hb])
    go_ret
    exact ⟨rfl, rfl⟩
  · have hb : (decide (0 ≤ i) && decide (i < (ms.length : Int))) = false := by
      rw [Bool.eq_false_iff]; intro e; apply h; simpa using e
    have hfr : freeB ms i = false := by unfold freeB; rw [hb]; rfl
    rw [hfr]
    clear hc h hfr
    go_enter Tryz.func48, Tryz.ntmps48
    go_wp2_with (go_at_call 72; refine (has_any _ _ _ _ _ _ hm).mono ?_; rintro e w' ⟨rfl, rfl⟩; rw [hb])
    go_ret
    exact ⟨rfl, rfl⟩

end Go.Proofs.YtekhlaodlagbdaaGreatDoor

/-
  The walk of grid.Map's All.
-/
namespace Go.Proofs.YtekhlaodlagbdaaGreatDoor
set_option maxRecDepth 100000
open Go.RowKit

/-- The free cells among the first k. -/
def freeK (ms : List UInt8) (k : Nat) : List Nat := (List.range k).filter (fun i => ms.getD i 0 != 35)
def natV (i : Nat) : Value := .int .i64 (i : Int)

theorem freeK_hit {ms : List UInt8} {k : Nat} (h : (ms.getD k 0 != 35) = true) : freeK ms (k + 1) = freeK ms k ++ [k] := by simp only [freeK, List.range_succ, List.filter_append, List.filter_cons, h, List.filter_nil, if_true]
theorem freeK_miss {ms : List UInt8} {k : Nat} (h : (ms.getD k 0 != 35) = false) : freeK ms (k + 1) = freeK ms k := by simp only [freeK, List.range_succ, List.filter_append, List.filter_cons, h, List.filter_nil, Bool.false_eq_true, if_false, List.append_nil]
theorem freeK_le (ms : List UInt8) (k : Nat) : (freeK ms k).length ≤ k := Nat.le_trans (List.length_filter_le _ _) (by simp)

theorem Tryz.infoInt : (Tryz.prog.info? 3).map (fun i => (i.zero, i.size, i.bytes)) = some (some (.int .i64 0), 1, 8) := by kernel_rfl

theorem freeB_nat {ms : List UInt8} {k : Nat} (h : k < ms.length) : freeB ms (k : Int) = (ms.getD k 0 != 35) := by simp [freeB, h]

/-- The free cells. -/
def frees (ms : List UInt8) : List Nat := freeK ms ms.length

/-- What All leaves: a list of its own that holds the free cells. -/
def AllPost (ms : List UInt8) (w : World) (e : Ending) (w' : World) : Prop :=
  ∃ a cap, e = .returned (.slice a (frees ms).length cap) ∧ w'.ownsRow w.heap.size 3 1 (.slice a (frees ms).length cap) (frees ms).length ((frees ms).map natV) ∧ Below w.heap.size w w'

theorem all_post {ms : List UInt8} {w w' : World} {v : Value} (hown : w'.ownsRow w.heap.size 3 1 v (freeK ms ms.length).length ((freeK ms ms.length).map natV)) (hb : Below w.heap.size w w') : AllPost ms w (.returned v) w' := by
  have h2 := hown.2
  rcases h2 with ⟨h, h0⟩ | ⟨g, cap, _, h, _⟩
  · subst h
    exact ⟨none, 0, by simp [frees, h0], by simpa [frees, h0] using hown, hb⟩
  · subst h
    exact ⟨some ⟨g, 0, none⟩, cap, rfl, hown, hb⟩

set_option maxHeartbeats 400000 in
theorem all_any (b g cap : Nat) (ms : List UInt8) (w : World) (hn : ms.length ≤ 100000) (hb : b < w.heap.size) (hg : g < w.heap.size) (hm : w.cell? ⟨b, 2, none⟩ = some (.slice (some ⟨g, 0, none⟩) ms.length cap))
    (hc : ∀ j, j < ms.length → w.cell? ⟨g, j, none⟩ = some (byteV (ms.getD j 0))) :
    Calls Tryz.prog 36 #[.pointer (some ⟨b, 0, none⟩)] w (AllPost ms w) := by
  obtain ⟨i0, hi, hz0, hz1, hz2⟩ := info_parts Tryz.infoInt
  have HC : Hid (∀ j, j < ms.length → w.cell? ⟨g, j, none⟩ = some (byteV (ms.getD j 0))) := hc
  clear hc
  go_enter Tryz.func36, Tryz.ntmps36
  go_wp2_with (go_at_call 15; refine (cells_any _ _ _ _ _ hm).mono ?_; rintro e w' ⟨rfl, rfl⟩)
  go_loopw [3, 7] (fun v i wr => ∃ k : Nat, k ≤ ms.length ∧ i = .int .i64 k ∧ wr.ownsRow w.heap.size 3 1 v (freeK ms k).length ((freeK ms k).map natV) ∧ Below w.heap.size w wr) (fun _ i _ => ms.length - (intOf i).toNat)
  case atStart => exact ⟨0, Nat.zero_le _, rfl, World.ownsRow_nil _ _ _ _, Below.refl _ _⟩
  case round =>
    obtain ⟨k, hk, rfl, hown, hnx⟩ := hrel
    have hmr : wr.cell? ⟨b, 2, none⟩ = some (.slice (some ⟨g, 0, none⟩) ms.length cap) := (hnx.cell (p := ⟨b, 2, none⟩) hb).trans hm
    have hcr : Hid (∀ j, j < ms.length → wr.cell? ⟨g, j, none⟩ = some (byteV (ms.getD j 0))) := fun j hj => (hnx.cell (p := ⟨g, j, none⟩) hg).trans (HC.out j hj)
    have hle := freeK_le ms k
    by_cases hlt : k < ms.length
    · by_cases hf : (ms.getD k 0 != 35) = true
      · have hfb := freeB_nat hlt
        rw [hf] at hfb
        have hit : Hid (freeK ms (k + 1) = freeK ms k ++ [k]) := freeK_hit hf
        clear hf
        go_wp2_with (first
          | (go_at_call 48; refine (free_any _ _ _ _ _ _ hmr hcr.out).mono ?_; rintro e w' ⟨rfl, rfl⟩; rw [hfb])
          | (at_builtin; refine wpList_append_own _ rfl _ _ 36 rfl w.heap.size 3 i0 (.int .i64 0) 1 8 Tryz.underlying36 hi hz0 hz1 hz2 rfl (by decide) _ _ _ rfl (hown.alloc _) ⟨wr.heap.size, 0, none⟩ 1 1 [natV k] rfl rfl ?c1 ?c2 ?c3 ?c4 ?c5 ?_))
        case c1 => intro j u hj; match j, hj with | 0, hj => simp at hj; subst hj; simp [Addr.add, natV]
        case c2 => intro u hu; simp at hu; subst hu; rfl
        case c3 => unfold maxLen; omega
        case c4 => omega
        case c5 => have := hnx.size; simp; omega
        intro v' w1 hown' hgrow _
        have hnx1 : Below w.heap.size w w1 := (hnx.alloc hnx.size _).grown hgrow (by simp; have := hnx.size; omega) (fun j hj => (hown.lt j hj).1)
        have hown1 : w1.ownsRow w.heap.size 3 1 v' (freeK ms (k + 1)).length ((freeK ms (k + 1)).map natV) := by rw [hit.out]; simpa using hown'
        clear hgrow hown' hown
        go_wp2
        go_roundw
        case rel => exact ⟨k + 1, by omega, by go_num, hown1, hnx1⟩
        case measure => simp [intOf]; omega
      · have hf' : (ms.getD k 0 != 35) = false := by simpa using hf
        have hfb := freeB_nat hlt
        rw [hf'] at hfb
        have hit : Hid (freeK ms (k + 1) = freeK ms k) := freeK_miss hf'
        clear hf hf'
        go_wp2_with (go_at_call 48; refine (free_any _ _ _ _ _ _ hmr hcr.out).mono ?_; rintro e w' ⟨rfl, rfl⟩; rw [hfb])
        go_roundw
        case rel => exact ⟨k + 1, by omega, by go_num, by rw [hit.out]; exact hown, hnx⟩
        case measure => simp [intOf]; omega
    · obtain rfl : k = ms.length := by omega
      go_wp2
      go_ret
      exact all_post hown hnx

/-- A list of bytes in memory, cell by cell. -/
theorem byte_cells {w : World} {base g cap : Nat} {ms : List UInt8} {e : TypeId} (h : w.ownsRow base e 1 (.slice (some ⟨g, 0, none⟩) ms.length cap) ms.length (ms.map byteV)) :
    ∀ j, j < ms.length → w.cell? ⟨g, j, none⟩ = some (byteV (ms.getD j 0)) := by
  intro j hj
  have := h.cells (g := g) rfl j (byteV (ms.getD j 0)) (by simp [List.getD, hj])
  have e : (⟨g, 0, none⟩ : Addr).add j = ⟨g, j, none⟩ := by unfold Addr.add; split <;> simp_all
  rw [e] at this
  exact this

theorem frees_none (ms : List UInt8) : (frees ms).length = 0 ↔ ms.all (· == 35) = true := by
  rw [List.length_eq_zero_iff, frees, freeK, List.filter_eq_nil_iff, List.all_eq_true]
  constructor
  · intro h c hc
    obtain ⟨j, hj, rfl⟩ := List.getElem_of_mem hc
    have := h j (by simpa using hj)
    simpa [List.getD, hj] using this
  · intro h j hj
    have hj' : j < ms.length := by simpa using hj
    have := h ms[j] (by simp)
    simpa [List.getD, hj'] using this

end Go.Proofs.YtekhlaodlagbdaaGreatDoor
