/-
  Read and Bytes, plain: what is read of bytes, and back.
-/
import Derived.Test.YtmfbokaaoffdnaaDoorWrA
import Derived.Test.YtmfbokaaoffdnaaDoorWr8
namespace Go.Proofs.YtmfbokaaoffdnaaDoor.Wr
set_option maxRecDepth 100000
set_option linter.unusedSimpArgs false

theorem tk_dbl : ∀ (l : List Nat) (n : Nat) (r : List Nat) (ft : Bool), (∀ c ∈ l, c < 256) → tk l.length n (dbl l ++ r, ft) = (n * 256 ^ l.length + val l, (r, ft))
  | [], n, r, ft, _ => by simp [tk, dbl, val]
  | c :: l, n, r, ft, h => by
    have h2 := h c (by simp)
    rw [dbl_cons, List.length_cons, List.cons_append, List.cons_append, tk, if_pos (by omega), tk_dbl l _ r ft (fun x hx => h x (by simp [hx])), val_cons, Nat.pow_succ]
    congr 1
    rw [Nat.add_mul, Nat.mul_assoc, Nat.mul_comm 256 (256 ^ l.length), Nat.add_assoc]
theorem tk_be (w : Nat) (n : Int) (r : List Nat) (ft : Bool) : tkI w (dbl (be w n) ++ r, ft) = w64 (n % 2 ^ (8 * w)) ∧ tkS w (dbl (be w n) ++ r, ft) = (r, ft) := by
  have h := tk_dbl (be w n) 0 r ft (fun c hc => be_lt hc)
  rw [be_length] at h
  unfold tkI tkS
  rw [h, Nat.zero_mul, Nat.zero_add]
  exact ⟨by rw [← val_be], rfl⟩
theorem tk_fault : ∀ (w n : Nat) (s : RS), (tk w n s).2.2 = false → s.2 = false
  | 0, n, s, h => h
  | w + 1, n, (a :: b :: r, ft), h => by
    rw [tk] at h
    split at h
    · exact tk_fault w _ (r, ft) h
    · cases h
  | w + 1, n, ([a], ft), h => by rw [tk] at h; cases h
  | w + 1, n, ([], ft), h => by rw [tk] at h; cases h
theorem tk_conv : ∀ (w n : Nat) (s : RS), (∀ c ∈ s.1, c < 256) → (tk w n s).2.2 = false → ∃ l : List Nat, l.length = w ∧ (∀ c ∈ l, c < 256) ∧ s.1 = dbl l ++ (tk w n s).2.1 ∧ (tk w n s).1 = n * 256 ^ w + val l
  | 0, n, s, _, _ => ⟨[], rfl, by simp, by simp [dbl, tk], by simp [tk, val]⟩
  | w + 1, n, (a :: b :: r, ft), hb, h => by
    rw [tk] at h ⊢
    split at h
    · rename_i hab
      obtain ⟨l, h1, h2, h3, h4⟩ := tk_conv w _ (r, ft) (fun c hc => hb c (by simp [hc])) h
      have ha := hb a (by simp)
      have hbb := hb b (by simp)
      refine ⟨a :: l, by simp [h1], ?_, ?_, ?_⟩
      · intro c hc
        rcases List.mem_cons.1 hc with rfl | hc
        · exact ha
        · exact h2 c hc
      · rw [if_pos hab, dbl_cons]
        simp only at h3
        have : b = 255 - a := by omega
        rw [this, List.cons_append, List.cons_append, ← h3]
      · rw [if_pos hab, h4, val_cons, h1, Nat.pow_succ, Nat.add_mul, Nat.mul_assoc, Nat.mul_comm 256 (256 ^ w), Nat.add_assoc]
    · cases h
  | w + 1, n, ([a], ft), _, h => by rw [tk] at h; cases h
  | w + 1, n, ([], ft), _, h => by rw [tk] at h; cases h
theorem be_congr {w : Nat} {x y : Int} (h : (x - y) % 2 ^ (8 * w) = 0) : be w x = be w y := by
  have e : x = y + (x - y) / 2 ^ (8 * w) * 2 ^ (8 * w) := by
    have := Int.emod_add_mul_ediv (x - y) (2 ^ (8 * w))
    rw [h, Int.mul_comm] at this
    omega
  rw [e, be_mod]
theorem be_w64 {w : Nat} (hw : w ≤ 8) (x : Int) : be w (w64 x) = be w x := by
  apply be_congr
  have hd : ((2 : Int) ^ (8 * w)) ∣ 2 ^ 64 := ⟨2 ^ (64 - 8 * w), by rw [← Int.pow_add]; congr 1; omega⟩
  have h2 : ((2 : Int) ^ 64) ∣ w64 x - x := by
    have e : ((2 : Int) ^ 64) = 18446744073709551616 := by decide
    rw [e]
    unfold w64
    omega
  exact Int.emod_eq_zero_of_dvd (Int.dvd_trans hd h2)
theorem tk_inv {w : Nat} {s : RS} (hw : w ≤ 8) (hb : ∀ c ∈ s.1, c < 256) (h : (tkS w s).2 = false) : s.2 = false ∧ s.1 = dbl (be w (tkI w s)) ++ (tkS w s).1 := by
  refine ⟨tk_fault w 0 s h, ?_⟩
  obtain ⟨l, h1, h2, h3, h4⟩ := tk_conv w 0 s hb h
  rw [Nat.zero_mul, Nat.zero_add] at h4
  unfold tkI
  rw [h4, be_w64 hw, ← h1, be_val h2, h1]
  exact h3

/-! Fields. -/
theorem rdF_be (m : Msg) : ∀ (l : List Nat) (a : Nat → Int) (r : List Nat) (ft : Bool), l.foldl rdF1 (a, (dbl (fB m l) ++ r, ft)) = (fun j => if j ∈ l then w64 (num m j % 2 ^ (8 * wid j)) else a j, (r, ft))
  | [], a, r, ft => by simp [fB, dbl]
  | x :: l, a, r, ft => by
    have e : fB m (x :: l) = be (wid x) (num m x) ++ fB m l := by simp [fB]
    rw [e, dbl_append, List.append_assoc, List.foldl_cons]
    unfold rdF1
    simp only
    rw [(tk_be _ _ _ _).1, (tk_be _ _ _ _).2]
    have := rdF_be m l (fun j => if j = x then w64 (num m x % 2 ^ (8 * wid x)) else a j) r ft
    unfold rdF1 at this
    rw [this]
    congr 1
    funext j
    by_cases h1 : j ∈ l
    · simp [h1]
    · by_cases h2 : j = x
      · subst h2; simp [h1]
      · simp [h1, h2]
theorem rdC_be : ∀ (l : List (Int × Nat)) (r : List Nat) (ft : Bool), (∀ c ∈ l, 0 ≤ c.1 ∧ c.1 < 1024 ∧ c.2 < 4294967296) → rdC l.length (dbl (l.flatMap clm) ++ r, ft) = (l, (r, ft))
  | [], r, ft, _ => by simp [rdC, dbl]
  | c :: l, r, ft, h => by
    obtain ⟨h1, h2, h3⟩ := h c (by simp)
    have e : (c :: l).flatMap clm = be 2 c.1 ++ (be 4 (c.2 : Int) ++ l.flatMap clm) := by simp [clm]
    rw [e, dbl_append, dbl_append, List.append_assoc, List.append_assoc, List.length_cons, rdC]
    rw [(tk_be _ _ _ _).1, (tk_be _ _ _ _).2, (tk_be _ _ _ _).1, (tk_be _ _ _ _).2, rdC_be l r ft (fun x hx => h x (by simp [hx]))]
    simp only [Prod.mk.injEq, and_true, List.cons.injEq]
    refine Prod.ext ?_ ?_
    · show w64 (c.1 % 2 ^ (8 * 2)) = c.1
      rw [show (2 : Int) ^ (8 * 2) = 65536 by decide]; unfold w64; omega
    · show u32 (w64 ((c.2 : Int) % 2 ^ (8 * 4))) = c.2
      rw [show (2 : Int) ^ (8 * 4) = 4294967296 by decide]; unfold w64 u32; omega
theorem rise_in : ∀ (l : List (Int × Nat)) (L : Int), 0 ≤ L → rise L l = true → ∀ c ∈ l, 0 ≤ c.1 ∧ c.1 < 1024
  | [], _, _, _, c, hc => by cases hc
  | x :: l, L, hL, h, c, hc => by
    simp only [rise, Bool.and_eq_true, decide_eq_true_eq] at h
    rcases List.mem_cons.1 hc with rfl | hc
    · omega
    · exact rise_in l (x.1 + 1) (by omega) h.2 c hc
theorem flds_no (k : Int) : (flds k).Nodup ∧ (∀ x ∈ flds k, 1 ≤ x ∧ x ≤ 8) ∧ (isKind k = true → k.toNat < 12) := by
  by_cases h0 : 0 ≤ k
  · by_cases h1 : k < 12
    · obtain ⟨n, rfl⟩ := Int.eq_ofNat_of_zero_le h0
      have : ∀ n : Nat, n < 12 → (flds (n : Int)).Nodup ∧ ∀ x ∈ flds (n : Int), 1 ≤ x ∧ x ≤ 8 := by decide
      exact ⟨(this n (by omega)).1, (this n (by omega)).2, fun _ => by omega⟩
    · rw [flds_out (fun h => h1 h.2)]
      exact ⟨List.nodup_nil, fun x hx => by simp at hx, fun h => by have := of_decide_eq_true h; omega⟩
  · rw [flds_out (fun h => h0 h.1)]
    exact ⟨List.nodup_nil, fun x hx => by simp at hx, fun h => by have := of_decide_eq_true h; omega⟩
theorem okM_field {m : Msg} (h : okM m = true) {f : Nat} (hf : f < 9) : (f ∈ flds m.kind ∧ lo f ≤ num m f ∧ num m f ≤ hi f) ∨ (f ∉ flds m.kind ∧ num m f = 0) := by
  simp only [okM, Bool.and_eq_true, List.all_eq_true] at h
  have := h.1.2 f (by simp; omega)
  by_cases hc : f ∈ flds m.kind
  · rw [if_pos (by simpa using hc)] at this
    have := of_decide_eq_true this
    exact .inl ⟨hc, this.1, this.2⟩
  · rw [if_neg (by simpa using hc)] at this
    exact .inr ⟨hc, by simpa using this⟩
theorem rdM_be {m : Msg} (h : okM m = true) (hg : m.gen < 4294967296) (hs : m.stamp < 18446744073709551616) (hc : ∀ c ∈ m.claims, c.2 < 4294967296) (r : List Nat) (ft : Bool) :
    rdM (dbl (be 1 m.kind ++ body m) ++ r, ft) = (m, (r, ft)) := by
  have hk : 1 ≤ m.kind ∧ m.kind ≤ 11 := by simp only [okM, Bool.and_eq_true] at h; exact of_decide_eq_true h.1.1
  have hr : rise 0 m.claims = true := by simp only [okM, Bool.and_eq_true] at h; exact h.2
  have eb : body m = fB m (flds m.kind) ++ m.claims.flatMap clm := rfl
  have e1 : tkI 1 (dbl (be 1 m.kind ++ body m) ++ r, ft) = m.kind ∧ tkS 1 (dbl (be 1 m.kind ++ body m) ++ r, ft) = (dbl (fB m (flds m.kind)) ++ (dbl (m.claims.flatMap clm) ++ r), ft) := by
    rw [eb, dbl_append, dbl_append, List.append_assoc, List.append_assoc, (tk_be _ _ _ _).1, (tk_be _ _ _ _).2]
    refine ⟨?_, rfl⟩
    rw [show (2 : Int) ^ (8 * 1) = 256 by decide]; unfold w64; omega
  have e2 : rdF (flds m.kind) (dbl (fB m (flds m.kind)) ++ (dbl (m.claims.flatMap clm) ++ r), ft) = (fun j => if j ∈ flds m.kind then w64 (num m j % 2 ^ (8 * wid j)) else 0, (dbl (m.claims.flatMap clm) ++ r, ft)) := rdF_be m _ _ _ _
  have h8 : ((if 8 ∈ flds m.kind then w64 (num m 8 % 2 ^ (8 * wid 8)) else 0) : Int).toNat = m.claims.length := by
    rcases okM_field h (f := 8) (by omega) with ⟨h1, h2, h3⟩ | ⟨h1, h2⟩
    · rw [if_pos h1]
      have a : num m 8 = m.claims.length := rfl
      have b : hi 8 = 16 := rfl
      have c : (2 : Int) ^ (8 * wid 8) = 256 := by decide
      rw [c, a]; rw [a, b] at h3; unfold w64; omega
    · rw [if_neg h1]
      have a : num m 8 = m.claims.length := rfl
      rw [a] at h2; omega
  unfold rdM
  rw [e1.1, e1.2, e2]
  simp only
  rw [h8, rdC_be m.claims r ft (fun c hx => ⟨(rise_in _ 0 (Int.le_refl _) hr c hx).1, (rise_in _ 0 (Int.le_refl _) hr c hx).2, hc c hx⟩)]
  have f1 := okM_field h (f := 1) (by omega)
  have f2 := okM_field h (f := 2) (by omega)
  have f3 := okM_field h (f := 3) (by omega)
  have f4 := okM_field h (f := 4) (by omega)
  have f5 := okM_field h (f := 5) (by omega)
  have f6 := okM_field h (f := 6) (by omega)
  have f7 := okM_field h (f := 7) (by omega)
  obtain ⟨n0, n1, n2, n3, n4, n5, n6, n7, n8⟩ := num_bd m
  rw [n1, show lo 1 = 0 from rfl, show hi 1 = 1023 from rfl] at f1
  rw [n2] at f2
  rw [n3] at f3
  rw [n4, show lo 4 = 0 from rfl, show hi 4 = 15 from rfl] at f4
  rw [n5, show lo 5 = 0 from rfl, show hi 5 = 64 from rfl] at f5
  rw [n6, show lo 6 = 0 from rfl, show hi 6 = 63 from rfl] at f6
  rw [n7, show lo 7 = -1 from rfl, show hi 7 = 63 from rfl] at f7
  rw [n1, n2, n3, n4, n5, n6, n7]
  rw [show (2 : Int) ^ (8 * wid 1) = 65536 by decide, show (2 : Int) ^ (8 * wid 2) = 4294967296 by decide, show (2 : Int) ^ (8 * wid 3) = 18446744073709551616 by decide, show (2 : Int) ^ (8 * wid 4) = 256 by decide, show (2 : Int) ^ (8 * wid 5) = 256 by decide, show (2 : Int) ^ (8 * wid 6) = 256 by decide, show (2 : Int) ^ (8 * wid 7) = 256 by decide]
  obtain ⟨k, c, g, st, p, hp, o, t, cl⟩ := m
  simp only at *
  have g1 : (if 1 ∈ flds k then w64 (c % 65536) else 0) = c := by
    rcases f1 with ⟨a, b1, b2⟩ | ⟨a, b⟩
    · rw [if_pos a]; unfold w64; omega
    · rw [if_neg a]; omega
  have g2 : u32 (if 2 ∈ flds k then w64 ((g : Int) % 4294967296) else 0) = g := by
    rcases f2 with ⟨a, b1, b2⟩ | ⟨a, b⟩
    · rw [if_pos a]; unfold w64 u32; omega
    · rw [if_neg a]; unfold u32; omega
  have g3 : u64 (if 3 ∈ flds k then w64 (w64 (st : Int) % 18446744073709551616) else 0) = st := by
    rcases f3 with ⟨a, b1, b2⟩ | ⟨a, b⟩
    · rw [if_pos a]; unfold w64 u64; omega
    · rw [if_neg a]; unfold w64 at b; unfold u64; omega
  have g4 : (if 4 ∈ flds k then w64 (p % 256) else 0) = p := by
    rcases f4 with ⟨a, b1, b2⟩ | ⟨a, b⟩
    · rw [if_pos a]; unfold w64; omega
    · rw [if_neg a]; omega
  have g5 : (if 5 ∈ flds k then w64 (hp % 256) else 0) = hp := by
    rcases f5 with ⟨a, b1, b2⟩ | ⟨a, b⟩
    · rw [if_pos a]; unfold w64; omega
    · rw [if_neg a]; omega
  have g6 : (if 6 ∈ flds k then w64 (o % 256) else 0) = o := by
    rcases f6 with ⟨a, b1, b2⟩ | ⟨a, b⟩
    · rw [if_pos a]; unfold w64; omega
    · rw [if_neg a]; omega
  have g7 : i8 (if 7 ∈ flds k then w64 (t % 256) else 0) = t := by
    rcases f7 with ⟨a, b1, b2⟩ | ⟨a, b⟩
    · rw [if_pos a]; unfold w64 i8; omega
    · rw [if_neg a]; unfold i8; omega
  rw [g1, g2, g3, g4, g5, g6, g7]

/-- A packet's bytes, whatever stands behind them, are read as the packet. -/
theorem rdP_be {p : Pkt} (h : okP p = true) (hf : Fits p) (r : List Nat) : rdP (bytes p ++ r) = (p, (r, false)) := by
  have h0 := h
  simp only [okP, isR, Bool.and_eq_true, decide_eq_true_eq] at h
  obtain ⟨⟨⟨h1, h2⟩, _⟩, h3⟩ := h
  obtain ⟨f, t, fe, te, sq, mt, m⟩ := p
  obtain ⟨b1, b2, b3, b4, b5, b6, b7⟩ := hf
  simp only at *
  have e : ∀ w n l, dbl (be w n ++ l) ++ r = dbl (be w n) ++ (dbl l ++ r) := fun w n l => by rw [dbl_append, List.append_assoc]
  unfold rdP
  unfold bytes plain
  simp only
  rw [e 1 f, (tk_be 1 f _ _).1, (tk_be 1 f _ _).2, e 1 t, (tk_be 1 t _ _).1, (tk_be 1 t _ _).2, e 4 fe, (tk_be 4 fe _ _).1, (tk_be 4 fe _ _).2, e 4 te, (tk_be 4 te _ _).1, (tk_be 4 te _ _).2, e 4 sq, (tk_be 4 sq _ _).1, (tk_be 4 sq _ _).2, e 4 mt, (tk_be 4 mt _ _).1, (tk_be 4 mt _ _).2, rdM_be h3 b5 b6 b7]
  rw [show (2 : Int) ^ (8 * 1) = 256 by decide, show (2 : Int) ^ (8 * 4) = 4294967296 by decide]
  have u : ∀ n : Nat, n < 4294967296 → u32 (w64 ((n : Int) % 4294967296)) = n := fun n hn => by unfold w64 u32; omega
  have v : ∀ n : Int, 0 ≤ n → n < 64 → w64 (n % 256) = n := fun n h1 h2 => by unfold w64; omega
  rw [u _ b1, u _ b2, u _ b3, u _ b4, v _ h1.1 h1.2, v _ h2.1 h2.2]
theorem read_bytes {p : Pkt} (h : okP p = true) (hf : Fits p) : readF (bytes p) = some p := by
  have := rdP_be h hf []
  rw [List.append_nil] at this
  unfold readF
  rw [this]
  simp [whole, h]
theorem read_more {p : Pkt} (h : okP p = true) (hf : Fits p) {r : List Nat} (hr : r ≠ []) : readF (bytes p ++ r) = none := by
  unfold readF
  rw [rdP_be h hf r]
  cases r with
  | nil => exact absurd rfl hr
  | cons a r => simp [whole]

/-! Back: what is read. -/
theorem rdF_inv : ∀ (l : List Nat) (a : Nat → Int) (s : RS), l.Nodup → (∀ x ∈ l, x < 9) → (∀ c ∈ s.1, c < 256) → (l.foldl rdF1 (a, s)).2.2 = false →
    s.2 = false ∧ s.1 = dbl (l.flatMap (fun f => be (wid f) ((l.foldl rdF1 (a, s)).1 f))) ++ (l.foldl rdF1 (a, s)).2.1 ∧ ∀ j, j ∉ l → (l.foldl rdF1 (a, s)).1 j = a j
  | [], a, s, _, _, _, h => ⟨h, by simp [dbl], fun _ _ => rfl⟩
  | x :: l, a, s, hn, hx, hb, h => by
    rw [List.foldl_cons] at h ⊢
    obtain ⟨hn1, hn2⟩ := List.nodup_cons.1 hn
    obtain ⟨i1, i2, i3⟩ := rdF_inv l _ _ hn2 (fun y hy => hx y (by simp [hy])) (tkS_in hb : ∀ c ∈ (tkS (wid x) s).1, c < 256) h
    have e : rdF1 (a, s) x = (fun j => if j = x then tkI (wid x) s else a j, tkS (wid x) s) := rfl
    obtain ⟨t1, t2⟩ := tk_inv (wid_le x (hx x (by simp))) hb i1
    rw [e]
    refine ⟨t1, ?_, ?_⟩
    · have e3 := i3 x hn1
      rw [if_pos rfl] at e3
      rw [List.flatMap_cons, e3, dbl_append, List.append_assoc, ← i2, ← t2]
    · intro j hj
      rw [i3 j (fun h => hj (by simp [h])), if_neg (fun h => hj (by simp [h]))]
theorem rdC_inv : ∀ (n : Nat) (s : RS), (∀ c ∈ s.1, c < 256) → (rdC n s).2.2 = false → s.2 = false ∧ s.1 = dbl ((rdC n s).1.flatMap clm) ++ (rdC n s).2.1 ∧ (rdC n s).1.length = n ∧ ∀ c ∈ (rdC n s).1, c.2 < 4294967296
  | 0, s, _, h => ⟨h, by simp [rdC, dbl], rfl, by simp [rdC]⟩
  | n + 1, s, hb, h => by
    rw [rdC] at h ⊢
    simp only at h ⊢
    obtain ⟨i1, i2, i3, i4⟩ := rdC_inv n _ (tkS_in (tkS_in hb)) h
    obtain ⟨t1, t2⟩ := tk_inv (w := 4) (by omega) (tkS_in hb) i1
    obtain ⟨u1, u2⟩ := tk_inv (w := 2) (by omega) hb t1
    refine ⟨u1, ?_, by rw [List.length_cons, i3], ?_⟩
    · rw [List.flatMap_cons, dbl_append, List.append_assoc, ← i2]
      unfold clm
      simp only
      have : be 4 ((u32 (tkI 4 (tkS 2 s)) : Nat) : Int) = be 4 (tkI 4 (tkS 2 s)) := be_congr (by rw [show (2 : Int) ^ (8 * 4) = 4294967296 by decide]; unfold u32; omega)
      rw [this, dbl_append, List.append_assoc, ← t2, ← u2]
    · intro c hc
      rcases List.mem_cons.1 hc with rfl | hc
      · show u32 _ < _
        unfold u32; omega
      · exact i4 c hc
theorem rdM_inv {s : RS} (hb : ∀ c ∈ s.1, c < 256) (h : (rdM s).2.2 = false) :
    s.2 = false ∧ s.1 = dbl (be 1 (rdM s).1.kind ++ body (rdM s).1) ++ (rdM s).2.1 ∧ (rdM s).1.gen < 4294967296 ∧ (rdM s).1.stamp < 18446744073709551616 ∧ ∀ c ∈ (rdM s).1.claims, c.2 < 4294967296 := by
  obtain ⟨K, hK⟩ : ∃ K, K = tkI 1 s := ⟨_, rfl⟩
  obtain ⟨s1, hs1⟩ : ∃ t, t = tkS 1 s := ⟨_, rfl⟩
  obtain ⟨a, ha⟩ : ∃ a, a = rdF (flds K) s1 := ⟨_, rfl⟩
  obtain ⟨c, hc⟩ : ∃ c, c = rdC (a.1 8).toNat a.2 := ⟨_, rfl⟩
  have e : rdM s = (⟨K, a.1 1, u32 (a.1 2), u64 (a.1 3), a.1 4, a.1 5, a.1 6, i8 (a.1 7), c.1⟩, c.2) := by
    rw [hc, ha, hK, hs1]; rfl
  rw [e] at h ⊢
  simp only at h ⊢
  have hb1 : ∀ c ∈ s1.1, c < 256 := by rw [hs1]; exact tkS_in hb
  have hba : ∀ c ∈ a.2.1, c < 256 := by
    rw [ha]
    have : ∀ (l : List Nat) (x : (Nat → Int) × RS), (∀ c ∈ x.2.1, c < 256) → ∀ c ∈ (l.foldl rdF1 x).2.1, c < 256 := by
      intro l
      induction l with
      | nil => exact fun x h => h
      | cons y l ih => exact fun x h => ih _ (tkS_in h : ∀ c ∈ (rdF1 x y).2.1, c < 256)
    exact this _ _ hb1
  obtain ⟨c1, c2, c3, c4⟩ := rdC_inv (a.1 8).toNat a.2 hba (by rw [← hc]; exact h)
  rw [← hc] at c2 c3 c4
  have hn := flds_no K
  have ha' : a = (flds K).foldl rdF1 (fun _ => 0, s1) := ha
  have hI := rdF_inv (flds K) (fun _ => 0) s1 hn.1 (fun x hx => by have := hn.2.1 x hx; omega) hb1 (by rw [← ha']; exact c1)
  rw [← ha'] at hI
  obtain ⟨d1, d2, d3⟩ := hI
  obtain ⟨t1, t2⟩ := tk_inv (w := 1) (by omega) hb (by rw [← hs1]; exact d1)
  rw [← hK, ← hs1] at t2
  refine ⟨t1, ?_, by unfold u32; omega, by unfold u64; omega, c4⟩
  rw [dbl_append, List.append_assoc]
  rw [t2, d2, c2]
  congr 1
  unfold body
  rw [dbl_append, List.append_assoc]
  congr 2
  simp only [List.flatMap]
  congr 1
  apply List.map_congr_left
  intro f hf
  have hff := hn.2.1 f hf
  have cases_ : f = 1 ∨ f = 2 ∨ f = 3 ∨ f = 4 ∨ f = 5 ∨ f = 6 ∨ f = 7 ∨ f = 8 := by omega
  rcases cases_ with rfl | rfl | rfl | rfl | rfl | rfl | rfl | rfl
  · rfl
  · exact be_congr (by rw [show (2 : Int) ^ (8 * wid 2) = 4294967296 by decide]; show (a.1 2 - ((u32 (a.1 2) : Nat) : Int)) % _ = 0; unfold u32; omega)
  · exact be_congr (by rw [show (2 : Int) ^ (8 * wid 3) = 18446744073709551616 by decide]; show (a.1 3 - w64 ((u64 (a.1 3) : Nat) : Int)) % _ = 0; unfold u64 w64; omega)
  · rfl
  · rfl
  · rfl
  · exact be_congr (by rw [show (2 : Int) ^ (8 * wid 7) = 256 by decide]; show (a.1 7 - i8 (a.1 7)) % _ = 0; unfold i8; omega)
  · have e8 : num ⟨K, a.1 1, u32 (a.1 2), u64 (a.1 3), a.1 4, a.1 5, a.1 6, i8 (a.1 7), c.1⟩ 8 = (c.1.length : Int) := rfl
    rw [e8, c3]
    have hnn : 0 ≤ a.1 8 := by
      rw [ha]
      have : ∀ (l : List Nat) (x : (Nat → Int) × RS), (∀ c ∈ x.2.1, c < 256) → 0 ≤ x.1 8 → 0 ≤ (l.foldl rdF1 x).1 8 := by
        intro l
        induction l with
        | nil => exact fun x _ h => h
        | cons y l ih =>
          intro x h h8
          refine ih _ (tkS_in h : ∀ c ∈ (rdF1 x y).2.1, c < 256) ?_
          show 0 ≤ (if 8 = y then tkI (wid y) x.2 else x.1 8)
          split
          · rename_i hy
            subst hy
            exact (tkI_bd (by decide) h).1
          · exact h8
      exact this _ _ hb1 (Int.le_refl _)
    rw [Int.toNat_of_nonneg hnn]
theorem read_some {b : List Nat} (hb : ∀ c ∈ b, c < 256) {p : Pkt} (h : readF b = some p) : b = bytes p ∧ okP p = true ∧ Fits p := by
  unfold readF at h
  split at h
  · rename_i hw
    cases h
    simp only [whole, Bool.and_eq_true, Bool.not_eq_true', List.isEmpty_iff] at hw
    obtain ⟨⟨hw1, hw2⟩, hok⟩ := hw
    obtain ⟨s0, hs0⟩ : ∃ s : RS, s = (b, false) := ⟨_, rfl⟩
    obtain ⟨s1, hs1⟩ : ∃ s, s = tkS 1 s0 := ⟨_, rfl⟩
    obtain ⟨s2, hs2⟩ : ∃ s, s = tkS 1 s1 := ⟨_, rfl⟩
    obtain ⟨s3, hs3⟩ : ∃ s, s = tkS 4 s2 := ⟨_, rfl⟩
    obtain ⟨s4, hs4⟩ : ∃ s, s = tkS 4 s3 := ⟨_, rfl⟩
    obtain ⟨s5, hs5⟩ : ∃ s, s = tkS 4 s4 := ⟨_, rfl⟩
    obtain ⟨s6, hs6⟩ : ∃ s, s = tkS 4 s5 := ⟨_, rfl⟩
    have e : rdP b = (⟨tkI 1 s0, tkI 1 s1, u32 (tkI 4 s2), u32 (tkI 4 s3), u32 (tkI 4 s4), u32 (tkI 4 s5), (rdM s6).1⟩, (rdM s6).2) := by
      rw [hs6, hs5, hs4, hs3, hs2, hs1, hs0]; rfl
    rw [e] at hw1 hw2 hok ⊢
    simp only at hw1 hw2
    have hb0 : ∀ c ∈ s0.1, c < 256 := by rw [hs0]; exact hb
    have hb1 : ∀ c ∈ s1.1, c < 256 := by rw [hs1]; exact tkS_in hb0
    have hb2 : ∀ c ∈ s2.1, c < 256 := by rw [hs2]; exact tkS_in hb1
    have hb3 : ∀ c ∈ s3.1, c < 256 := by rw [hs3]; exact tkS_in hb2
    have hb4 : ∀ c ∈ s4.1, c < 256 := by rw [hs4]; exact tkS_in hb3
    have hb5 : ∀ c ∈ s5.1, c < 256 := by rw [hs5]; exact tkS_in hb4
    have hb6 : ∀ c ∈ s6.1, c < 256 := by rw [hs6]; exact tkS_in hb5
    obtain ⟨m1, m2, m3, m4, m5⟩ := rdM_inv hb6 hw1
    obtain ⟨x5, y5⟩ := tk_inv (w := 4) (by omega) hb5 (by rw [← hs6]; exact m1)
    obtain ⟨x4, y4⟩ := tk_inv (w := 4) (by omega) hb4 (by rw [← hs5]; exact x5)
    obtain ⟨x3, y3⟩ := tk_inv (w := 4) (by omega) hb3 (by rw [← hs4]; exact x4)
    obtain ⟨x2, y2⟩ := tk_inv (w := 4) (by omega) hb2 (by rw [← hs3]; exact x3)
    obtain ⟨x1, y1⟩ := tk_inv (w := 1) (by omega) hb1 (by rw [← hs2]; exact x2)
    obtain ⟨x0, y0⟩ := tk_inv (w := 1) (by omega) hb0 (by rw [← hs1]; exact x1)
    rw [← hs6] at y5
    rw [← hs5] at y4
    rw [← hs4] at y3
    rw [← hs3] at y2
    rw [← hs2] at y1
    rw [← hs1] at y0
    have u : ∀ x : Int, be 4 ((u32 x : Nat) : Int) = be 4 x := fun x => be_congr (by rw [show (2 : Int) ^ (8 * 4) = 4294967296 by decide]; unfold u32; omega)
    refine ⟨?_, hok, ?_⟩
    · have e0 : b = s0.1 := by rw [hs0]
      rw [e0, y0, y1, y2, y3, y4, y5, m2, hw2]
      unfold bytes plain
      simp only [u, dbl_append, List.append_nil]
    · have l : ∀ x : Int, u32 x < 4294967296 := fun x => by unfold u32; omega
      exact ⟨l _, l _, l _, l _, m3, m4, m5⟩
  · cases h
end Go.Proofs.YtmfbokaaoffdnaaDoor.Wr
