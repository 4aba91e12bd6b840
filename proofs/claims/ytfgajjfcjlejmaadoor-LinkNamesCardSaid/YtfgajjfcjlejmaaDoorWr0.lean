/-
  Packets and their bytes: plain facts. No program.
-/
namespace Go.Proofs.YtfgajjfcjlejmaaDoor.Wr
set_option maxRecDepth 100000
set_option linter.unusedSimpArgs false

structure Msg where
  kind : Int
  cell : Int
  gen : Nat
  stamp : Nat
  prio : Int
  hops : Int
  origin : Int
  other : Int
  claims : List (Int × Nat)
deriving DecidableEq, Inhabited

structure Pkt where
  from_ : Int
  to_ : Int
  fe : Nat
  te : Nat
  seq : Nat
  met : Nat
  msg : Msg
deriving DecidableEq, Inhabited

/-- The fields that a kind names. -/
def fldL : List (List Nat) := [[], [1, 3, 4], [1, 2, 3], [1, 2], [], [1, 3, 7], [1, 6, 7, 4, 5], [6, 7], [1, 4], [], [1, 2], [8]]
def flds (k : Int) : List Nat := if 0 ≤ k then fldL.getD k.toNat [] else []
def isKind (k : Int) : Bool := decide (1 ≤ k ∧ k ≤ 11)
def wid (f : Nat) : Nat := [0, 2, 4, 8, 1, 1, 1, 1, 1].getD f 0
def lo (f : Nat) : Int := [0, 0, 0, -9223372036854775808, 0, 0, 0, -1, 0].getD f 0
def hi (f : Nat) : Int := [0, 1023, 4294967295, 9223372036854775807, 15, 64, 63, 63, 16].getD f 0
def w64 (n : Int) : Int := if n % 18446744073709551616 ≥ 9223372036854775808 then n % 18446744073709551616 - 18446744073709551616 else n % 18446744073709551616
def num (m : Msg) (f : Nat) : Int :=
  match f with
  | 1 => m.cell | 2 => m.gen | 3 => w64 m.stamp | 4 => m.prio | 5 => m.hops | 6 => m.origin | 7 => m.other | 8 => m.claims.length | _ => 0
def inR (f : Nat) (n : Int) : Bool := decide (lo f ≤ n ∧ n ≤ hi f)
def rise : Int → List (Int × Nat) → Bool
  | _, [] => true
  | l, c :: cs => decide (l ≤ c.1 ∧ c.1 < 1024) && rise (c.1 + 1) cs
/-- May a message be? -/
def okM (m : Msg) : Bool := isKind m.kind && (List.range 9).all (fun f => if (flds m.kind).contains f then inR f (num m f) else num m f == 0) && rise 0 m.claims
def isR (n : Int) : Bool := decide (0 ≤ n ∧ n < 64)
def okP (p : Pkt) : Bool := isR p.from_ && isR p.to_ && (p.from_ != p.to_) && okM p.msg

/-- A number in so many bytes, the highest first. -/
def be : Nat → Int → List Nat
  | 0, _ => []
  | w + 1, n => ((n / 2 ^ (8 * w)) % 256).toNat :: be w n
def dbl (l : List Nat) : List Nat := l.flatMap (fun c => [c, 255 - c])
def clm (c : Int × Nat) : List Nat := be 2 c.1 ++ be 4 (c.2 : Int)
def body (m : Msg) : List Nat := (flds m.kind).flatMap (fun f => be (wid f) (num m f)) ++ m.claims.flatMap clm
def plain (p : Pkt) : List Nat :=
  be 1 p.from_ ++ (be 1 p.to_ ++ (be 4 (p.fe : Int) ++ (be 4 (p.te : Int) ++ (be 4 (p.seq : Int) ++ (be 4 (p.met : Int) ++ (be 1 p.msg.kind ++ body p.msg))))))
def bytes (p : Pkt) : List Nat := dbl (plain p)
def sizeM (m : Msg) : Nat := 2 * (19 + m.claims.length * 6 + ((flds m.kind).map wid).foldl (· + ·) 0)

theorem be_length (w : Nat) (n : Int) : (be w n).length = w := by
  induction w with
  | zero => rfl
  | succ w ih => simp [be, ih]
theorem be_lt {w : Nat} {n : Int} {c : Nat} (h : c ∈ be w n) : c < 256 := by
  induction w with
  | zero => simp [be] at h
  | succ w ih =>
    simp only [be, List.mem_cons] at h
    rcases h with rfl | h
    · omega
    · exact ih h
theorem be_get {w i : Nat} {n : Int} (hi : i < w) : (be w n)[i]? = some ((n / 2 ^ (8 * (w - 1 - i))) % 256).toNat := by
  induction w generalizing i with
  | zero => omega
  | succ w ih =>
    cases i with
    | zero => simp [be]
    | succ i =>
      simp only [be, List.getElem?_cons_succ]
      rw [ih (by omega)]
      congr 6
      omega
theorem be_take {w i : Nat} {n : Int} (hi : i < w) : (be w n).take (i + 1) = (be w n).take i ++ [((n / 2 ^ (8 * (w - 1 - i))) % 256).toNat] := by
  rw [List.take_add_one, be_get hi]
  rfl
theorem dbl_nil : dbl [] = [] := rfl
theorem dbl_append (l m : List Nat) : dbl (l ++ m) = dbl l ++ dbl m := by simp [dbl]
theorem dbl_cons (c : Nat) (l : List Nat) : dbl (c :: l) = c :: (255 - c) :: dbl l := rfl
theorem dbl_length (l : List Nat) : (dbl l).length = 2 * l.length := by
  induction l with
  | nil => rfl
  | cons c l ih => rw [dbl_cons]; simp [ih]; omega

/-! A number out of bytes. -/
def val (l : List Nat) : Nat := l.foldl (fun n c => n * 256 + c) 0
theorem val_snoc (l : List Nat) (c : Nat) : val (l ++ [c]) = val l * 256 + c := by simp [val]
theorem val_nil : val [] = 0 := rfl
theorem foldl_val (l : List Nat) (n : Nat) : l.foldl (fun n c => n * 256 + c) n = n * 256 ^ l.length + val l := by
  induction l generalizing n with
  | nil => simp [val]
  | cons c l ih =>
    simp only [List.foldl_cons, val, List.length_cons]
    rw [ih, ih (0 * 256 + c), Nat.pow_succ]
    rw [Nat.add_mul, Nat.zero_mul, Nat.zero_add, Nat.mul_assoc, Nat.mul_comm 256]
    omega
theorem val_cons (c : Nat) (l : List Nat) : val (c :: l) = c * 256 ^ l.length + val l := by
  show l.foldl _ (0 * 256 + c) = _
  rw [foldl_val]; simp
theorem val_lt {l : List Nat} (h : ∀ c ∈ l, c < 256) : val l < 256 ^ l.length := by
  induction l with
  | nil => simp [val]
  | cons c l ih =>
    rw [val_cons, List.length_cons, Nat.pow_succ]
    have h1 := ih (fun x hx => h x (by simp [hx]))
    have h2 := h c (by simp)
    have : (c + 1) * 256 ^ l.length ≤ 256 * 256 ^ l.length := Nat.mul_le_mul_right _ (by omega)
    rw [Nat.add_mul, Nat.one_mul] at this
    rw [Nat.mul_comm (256 ^ l.length)]
    omega
theorem pow_8 (w : Nat) : (2 : Int) ^ (8 * w) = ((256 ^ w : Nat) : Int) := by
  rw [Nat.mul_comm, Int.pow_mul, Int.natCast_pow]
  rw [← Int.pow_mul, Nat.mul_comm, Int.pow_mul]
  rfl
theorem be_mod (w : Nat) (n k : Int) : be w (n + k * 2 ^ (8 * w)) = be w n := by
  induction w generalizing k with
  | zero => rfl
  | succ w ih =>
    simp only [be]
    have e : n + k * 2 ^ (8 * (w + 1)) = n + (k * 256) * 2 ^ (8 * w) := by
      rw [show 8 * (w + 1) = 8 * w + 8 by omega, Int.pow_add]
      have : (2 : Int) ^ 8 = 256 := by decide
      rw [this, Int.mul_comm (2 ^ (8 * w)) 256, ← Int.mul_assoc]
    have hp : (2 : Int) ^ (8 * w) ≠ 0 := by rw [pow_8]; have := Nat.pow_pos (n := w) (show 0 < 256 by omega); omega
    rw [e, ih, Int.add_mul_ediv_right _ _ hp, Int.add_mul_emod_self_right]
theorem be_val {l : List Nat} (h : ∀ c ∈ l, c < 256) : be l.length (val l : Int) = l := by
  induction l with
  | nil => rfl
  | cons c l ih =>
    have h1 := val_lt (fun x hx => h x (by simp [hx]) : ∀ x ∈ l, x < 256)
    have h2 := h c (by simp)
    have hp : 0 < 256 ^ l.length := Nat.pow_pos (by omega)
    have hv : ((val (c :: l) : Nat) : Int) = (val l : Int) + (c : Int) * 2 ^ (8 * l.length) := by
      rw [val_cons, pow_8]; push_cast; omega
    simp only [List.length_cons, be]
    congr 1
    · rw [hv, pow_8, Int.add_mul_ediv_right _ _ (by omega), Int.ediv_eq_zero_of_lt (by omega) (by omega)]
      omega
    · rw [hv, be_mod]; exact ih (fun x hx => h x (by simp [hx]))
theorem val_be (w : Nat) (n : Int) : ((val (be w n) : Nat) : Int) = n % 2 ^ (8 * w) := by
  induction w with
  | zero => simp [be, val]
  | succ w ih =>
    simp only [be]
    rw [val_cons, be_length]
    push_cast
    rw [ih, show 8 * (w + 1) = 8 * w + 8 by omega, Int.pow_add]
    have : (2 : Int) ^ 8 = 256 := by decide
    rw [this]
    have hp : (0 : Int) < 2 ^ (8 * w) := by rw [pow_8]; have := Nat.pow_pos (n := w) (show 0 < 256 by omega); omega
    have e1 : ((256 : Int) ^ w) = 2 ^ (8 * w) := by rw [pow_8]; push_cast; rfl
    rw [e1]
    generalize (2 : Int) ^ (8 * w) = P at *
    have h3 : (0 : Int) ≤ n / P % 256 := Int.emod_nonneg _ (by decide)
    have h4 : n / P % 256 < 256 := Int.emod_lt_of_pos _ (by decide)
    rw [Int.toNat_of_nonneg h3]
    have h5 := Int.emod_add_mul_ediv n P
    have h6 := Int.emod_add_mul_ediv (n / P) 256
    have h7 := Int.emod_nonneg n (show P ≠ 0 by omega)
    have h8 := Int.emod_lt_of_pos n hp
    generalize n / P % 256 = r at *
    generalize n / P / 256 = q at *
    generalize n % P = s at *
    have e : n = (r * P + s) + q * (P * 256) := by
      have : P * (n / P) = r * P + q * (P * 256) := by
        rw [← h6, Int.mul_add, Int.mul_comm P r, Int.mul_comm 256 q, ← Int.mul_assoc, ← Int.mul_assoc, Int.mul_comm P q]
      omega
    rw [e, Int.add_mul_emod_self_right, Int.emod_eq_of_lt]
    · have := Int.mul_nonneg h3 (show 0 ≤ P by omega); omega
    · have : (r + 1) * P ≤ 256 * P := Int.mul_le_mul_of_nonneg_right (by omega) (by omega)
      rw [Int.add_mul, Int.one_mul] at this
      rw [Int.mul_comm P 256]
      omega
end Go.Proofs.YtfgajjfcjlejmaaDoor.Wr
