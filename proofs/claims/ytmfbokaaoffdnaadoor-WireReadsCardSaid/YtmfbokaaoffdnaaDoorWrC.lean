/-
  taken: its walk.
-/
import Derived.Test.YtmfbokaaoffdnaaDoorWrB
namespace Go.Proofs.YtmfbokaaoffdnaaDoor
set_option maxRecDepth 100000
set_option linter.unusedSimpArgs false
open Go Go.RowKit Wr
attribute [local go_sem] Oper.semAt_some

/-- A round of taken, while its operations come up. -/
def TkInv (w : World) (q f : Nat) (K : Int) (b1 : Nat) (fx : Nat) (s : RS) (bn : Nat) (W : World) (l : Array Bool) (a : Act) (wr : World) : Prop :=
  ∃ (l0 l1 l2 l3 l4 l5 l6 l7 l8 : Bool) (x13 x14 x15 x16 x17 x18 x19 x20 : Value), l = #[l0, l1, l2, l3, l4, l5, l6, l7, l8] ∧
    a = { tmps := #[takeF q f, .pointer (some ⟨w.heap.size, 0, none⟩), .pointer (some ⟨w.heap.size + 1, 0, none⟩), .pointer (some ⟨w.heap.size + 1 + 1, 0, none⟩), .int .i64 K, .int .i64 (fx : Nat), undef, undef, takeF q f, .int .i64 K, .int .i64 K, .func (.func 31) #[] #[.pointer (some ⟨b1, 0, none⟩)], .int .i64 (fx : Nat), x13, x14, x15, x16, x17, x18, x19, x20, undef, undef, undef, undef, undef, undef, undef, undef, undef, undef, undef, undef, undef, undef, undef, undef, undef, undef, undef, undef, undef, undef, undef, undef, undef, undef, undef, undef, undef, undef, undef, undef, undef, undef, undef, undef, undef, undef, undef, undef, undef, undef, undef, undef, undef], defers := [] } ∧
    (l0 = true → x13 = .int .i64 (fx : Nat)) ∧ (l1 = true → x14 = takeF q f) ∧ (l2 = true → x15 = .int .i64 (fx : Nat)) ∧ (l3 = true → x16 = .pointer (some ⟨0, fx * 3, none⟩)) ∧ (l4 = true → x17 = .pointer (some ⟨0, fx * 3, none⟩)) ∧
    (l5 = true → x18 = .int .i64 (wid fx : Nat)) ∧ (l7 = true → x20 = .pointer (some ⟨bn, fx, none⟩)) ∧ (l6 = true → l1 = true ∧ l5 = true) ∧ (l8 = true → l6 = true) ∧
    ((l6 = false ∧ wr = W.drew) ∨ (l6 = true ∧ x19 = .int .i64 (tkI (wid fx) s) ∧ ∃ wa, Rd q f (tkS (wid fx) s) wa ∧ Kept (fun k => k = q ∨ k = f) W.drew wa ∧ wr = if l8 then wa.setCell ⟨bn, fx, none⟩ (.int .i64 (tkI (wid fx) s)) else wa))

theorem Tryd.infoClaim : (Tryd.prog.info? 50).map (fun i => (i.zero, i.size, i.bytes)) = some (some (.agg #[.int .i64 0, .int .u32 0]), 2, 16) := by kernel_rfl
def csC (l : List (Int × Nat)) : List Value := l.flatMap (fun c => [.int .i64 c.1, .int .u32 (c.2 : Nat)])
theorem csC_snoc (l : List (Int × Nat)) (c : Int × Nat) : csC (l ++ [c]) = csC l ++ [.int .i64 c.1, .int .u32 (c.2 : Nat)] := by simp [csC]
theorem csC_len (l : List (Int × Nat)) : (csC l).length = l.length * 2 := by
  induction l with
  | nil => rfl
  | cons c l ih => simp [csC] at ih ⊢; omega
theorem csC_get : ∀ (l : List (Int × Nat)) (k : Nat), k < l.length → (csC l)[k * 2]? = some (.int .i64 (l.getD k (0, 0)).1) ∧ (csC l)[k * 2 + 1]? = some (.int .u32 ((l.getD k (0, 0)).2 : Nat))
  | [], k, h => by simp at h
  | c :: l, 0, _ => ⟨rfl, rfl⟩
  | c :: l, k + 1, h => by
    have := csC_get l k (by simpa using h)
    have e : csC (c :: l) = .int .i64 c.1 :: .int .u32 (c.2 : Nat) :: csC l := by simp [csC]
    rw [e, show (k + 1) * 2 = k * 2 + 1 + 1 by omega]
    simpa using this
theorem claims_own {W : World} {base : Nat} {v : Value} {l : List (Int × Nat)} (h : W.ownsRow base 50 2 v l.length (csC l)) : ∃ A cap, v = .slice A l.length cap ∧ ClaimsAt W A l := by
  rcases h.2 with ⟨rfl, h0⟩ | ⟨g, cap, cur, rfl, hb, hg, _⟩
  · exact ⟨none, 0, by rw [h0], fun k hk => by omega⟩
  · refine ⟨_, cap, rfl, fun k hk => ⟨_, rfl, ?_, ?_⟩⟩
    · have := h.cells (g := g) rfl (k * 2) _ (csC_get l k hk).1
      exact this
    · have := h.cells (g := g) rfl (k * 2 + 1) _ (csC_get l k hk).2
      have e : (⟨(((⟨g, 0, none⟩ : Addr)).add (k * 2)).block, ((⟨g, 0, none⟩ : Addr).add (k * 2)).off + 1, none⟩ : Addr) = (⟨g, 0, none⟩ : Addr).add (k * 2 + 1) := by
        unfold Addr.add
        by_cases h0 : k = 0
        · subst h0; simp
        · have h00 : ¬ k * 2 = 0 := by omega
          simp [h00]
      rw [e]
      exact this

def wr9 (V : World) (b : Nat) (a0 a1 a2 a3 a4 a5 a6 a7 a8 : Value) : World :=
  ((((((((V.setCell ⟨b, 0, none⟩ a0).setCell ⟨b, 1, none⟩ a1).setCell ⟨b, 2, none⟩ a2).setCell ⟨b, 3, none⟩ a3).setCell ⟨b, 4, none⟩ a4).setCell ⟨b, 5, none⟩ a5).setCell ⟨b, 6, none⟩ a6).setCell ⟨b, 7, none⟩ a7).setCell ⟨b, 8, none⟩ a8
theorem wr9_facts {V : World} {b : Nat} (h : V.heap[b]? = some (.cells msgZ 26 (0, 0))) (a0 a1 a2 a3 a4 a5 a6 a7 a8 : Value) :
    (wr9 V b a0 a1 a2 a3 a4 a5 a6 a7 a8).heap[b]? = some (.cells #[a0, a1, a2, a3, a4, a5, a6, a7, a8] 26 (0, 0)) ∧ Kept (fun k => k = b) V (wr9 V b a0 a1 a2 a3 a4 a5 a6 a7 a8) := by
  have h0 : (V.setCell ⟨b, 0, none⟩ a0).heap[b]? = some (.cells #[a0, .int .i64 0, .int .u32 0, .int .u64 0, .int .i64 0, .int .i64 0, .int .i64 0, .int .i64 0, .slice none 0 0] 26 (0, 0)) := blk_set h 0 a0
  have h1 : ((V.setCell ⟨b, 0, none⟩ a0).setCell ⟨b, 1, none⟩ a1).heap[b]? = some (.cells #[a0, a1, .int .u32 0, .int .u64 0, .int .i64 0, .int .i64 0, .int .i64 0, .int .i64 0, .slice none 0 0] 26 (0, 0)) := blk_set h0 1 a1
  have h2 : (((V.setCell ⟨b, 0, none⟩ a0).setCell ⟨b, 1, none⟩ a1).setCell ⟨b, 2, none⟩ a2).heap[b]? = some (.cells #[a0, a1, a2, .int .u64 0, .int .i64 0, .int .i64 0, .int .i64 0, .int .i64 0, .slice none 0 0] 26 (0, 0)) := blk_set h1 2 a2
  have h3 : ((((V.setCell ⟨b, 0, none⟩ a0).setCell ⟨b, 1, none⟩ a1).setCell ⟨b, 2, none⟩ a2).setCell ⟨b, 3, none⟩ a3).heap[b]? = some (.cells #[a0, a1, a2, a3, .int .i64 0, .int .i64 0, .int .i64 0, .int .i64 0, .slice none 0 0] 26 (0, 0)) := blk_set h2 3 a3
  have h4 : (((((V.setCell ⟨b, 0, none⟩ a0).setCell ⟨b, 1, none⟩ a1).setCell ⟨b, 2, none⟩ a2).setCell ⟨b, 3, none⟩ a3).setCell ⟨b, 4, none⟩ a4).heap[b]? = some (.cells #[a0, a1, a2, a3, a4, .int .i64 0, .int .i64 0, .int .i64 0, .slice none 0 0] 26 (0, 0)) := blk_set h3 4 a4
  have h5 : ((((((V.setCell ⟨b, 0, none⟩ a0).setCell ⟨b, 1, none⟩ a1).setCell ⟨b, 2, none⟩ a2).setCell ⟨b, 3, none⟩ a3).setCell ⟨b, 4, none⟩ a4).setCell ⟨b, 5, none⟩ a5).heap[b]? = some (.cells #[a0, a1, a2, a3, a4, a5, .int .i64 0, .int .i64 0, .slice none 0 0] 26 (0, 0)) := blk_set h4 5 a5
  have h6 : (((((((V.setCell ⟨b, 0, none⟩ a0).setCell ⟨b, 1, none⟩ a1).setCell ⟨b, 2, none⟩ a2).setCell ⟨b, 3, none⟩ a3).setCell ⟨b, 4, none⟩ a4).setCell ⟨b, 5, none⟩ a5).setCell ⟨b, 6, none⟩ a6).heap[b]? = some (.cells #[a0, a1, a2, a3, a4, a5, a6, .int .i64 0, .slice none 0 0] 26 (0, 0)) := blk_set h5 6 a6
  have h7 : ((((((((V.setCell ⟨b, 0, none⟩ a0).setCell ⟨b, 1, none⟩ a1).setCell ⟨b, 2, none⟩ a2).setCell ⟨b, 3, none⟩ a3).setCell ⟨b, 4, none⟩ a4).setCell ⟨b, 5, none⟩ a5).setCell ⟨b, 6, none⟩ a6).setCell ⟨b, 7, none⟩ a7).heap[b]? = some (.cells #[a0, a1, a2, a3, a4, a5, a6, a7, .slice none 0 0] 26 (0, 0)) := blk_set h6 7 a7
  have h8 : (((((((((V.setCell ⟨b, 0, none⟩ a0).setCell ⟨b, 1, none⟩ a1).setCell ⟨b, 2, none⟩ a2).setCell ⟨b, 3, none⟩ a3).setCell ⟨b, 4, none⟩ a4).setCell ⟨b, 5, none⟩ a5).setCell ⟨b, 6, none⟩ a6).setCell ⟨b, 7, none⟩ a7).setCell ⟨b, 8, none⟩ a8).heap[b]? = some (.cells #[a0, a1, a2, a3, a4, a5, a6, a7, a8] 26 (0, 0)) := blk_set h7 8 a8
  refine ⟨h8, ?_⟩
  have k0 := (Kept.refl (fun k => k = b) V).setCell (p := ⟨b, 0, none⟩) (.inl rfl) a0
  have k1 := k0.setCell (p := ⟨b, 1, none⟩) (.inl rfl) a1
  have k2 := k1.setCell (p := ⟨b, 2, none⟩) (.inl rfl) a2
  have k3 := k2.setCell (p := ⟨b, 3, none⟩) (.inl rfl) a3
  have k4 := k3.setCell (p := ⟨b, 4, none⟩) (.inl rfl) a4
  have k5 := k4.setCell (p := ⟨b, 5, none⟩) (.inl rfl) a5
  have k6 := k5.setCell (p := ⟨b, 6, none⟩) (.inl rfl) a6
  have k7 := k6.setCell (p := ⟨b, 7, none⟩) (.inl rfl) a7
  have k8 := k7.setCell (p := ⟨b, 8, none⟩) (.inl rfl) a8
  exact k8
/-- The claims so far. -/
structure CI (w : World) (q f : Nat) (M : Value → Array Value) (mb D : Nat) (acc : List (Int × Nat)) (s : RS) (W : World) : Prop where
  kept : Kept (fun k => k = q ∨ k = f) w W
  fb : W.heap[w.heap.size]? = some (.cells #[takeF q f] 65 (0, 0))
  rb : W.heap[w.heap.size + 1]? = some (.cells msgZ 26 (0, 0))
  mb_ : ∃ v, W.heap[mb]? = some (.cells (M v) 26 (0, 0)) ∧ W.ownsRow w.heap.size 50 2 v acc.length (csC acc)
  rd : Rd q f s W
  dd : W.heap[D]? = some (.deferred (some []))
section
variable {w W W' : World} {q f mb D : Nat} {M : Value → Array Value} {acc : List (Int × Nat)} {s s' : RS}
theorem CI.take (h : CI w q f M mb D acc s W) (hq : q < w.heap.size) (hf : f < w.heap.size) (hm : w.heap.size ≤ mb) (hD : w.heap.size ≤ D) (hr : Rd q f s' W') (hk : Kept (fun k => k = q ∨ k = f) W W') : CI w q f M mb D acc s' W' := by
  obtain ⟨h1, h2, h3, ⟨v, h4, h5⟩, h6, h7⟩ := h
  have hqf : ∀ k, w.heap.size ≤ k → ¬ (k = q ∨ k = f) := by rintro k hk (e | e) <;> omega
  exact ⟨h1.trans hk (fun _ _ h => h), (hk.block _ (blk_lt h2) (hqf _ (by omega))).trans h2, (hk.block _ (blk_lt h3) (hqf _ (by omega))).trans h3, ⟨v, (hk.block _ (blk_lt h4) (hqf _ hm)).trans h4, hk.row h5 (fun g hg => hqf _ (h5.lt g hg).1)⟩, hr, (hk.block _ (blk_lt h7) (hqf _ hD)).trans h7⟩
theorem CI.alloc (h : CI w q f M mb D acc s W) (o : Obj) : CI w q f M mb D acc s (W.alloc o) := by
  obtain ⟨h1, h2, h3, ⟨v, h4, h5⟩, h6, h7⟩ := h
  have hk := (Kept.refl (fun _ => False) W).alloc o
  exact ⟨h1.alloc o, (hk.block _ (blk_lt h2) id).trans h2, (hk.block _ (blk_lt h3) id).trans h3, ⟨v, (hk.block _ (blk_lt h4) id).trans h4, hk.row h5 (fun _ _ => id)⟩, h6.alloc o, (hk.block _ (blk_lt h7) id).trans h7⟩
/-- A cell of a claim's box is written. -/
theorem CI.cset (h : CI w q f M mb D acc s W) {cb : Nat} {c0 c1 : Value} (hcb : W.heap[cb]? = some (.cells #[c0, c1] 50 (0, 0))) (hw : w.heap.size ≤ cb) (hq : q < w.heap.size) (hf : f < w.heap.size) (ho : ∀ v, W.heap[mb]? = some (.cells (M v) 26 (0, 0)) → v.ownBlock ≠ some cb) (u : Value) : CI w q f M mb D acc s (W.setCell ⟨cb, 1, none⟩ u) := by
  obtain ⟨h1, h2, h3, ⟨v, h4, h5⟩, h6, h7⟩ := h
  have hs := (Kept.refl (fun k => k = cb) W).setCell (p := ⟨cb, 1, none⟩) (.inl rfl) u
  have hne : ∀ {k : Nat} {c : Array Value} {t : TypeId} {z : Nat × Nat}, W.heap[k]? = some (.cells c t z) → t ≠ 50 → k ≠ cb := fun {k c t z} hk ht e => by
    subst e
    rw [hcb] at hk
    injection hk with hk
    injection hk with _ h8 _
    exact ht h8.symm
  refine ⟨h1.trans hs (fun i hi e => by omega), (hs.block _ (blk_lt h2) (hne h2 (by decide))).trans h2, (hs.block _ (blk_lt h3) (hne h3 (by decide))).trans h3, ⟨v, (hs.block _ (blk_lt h4) (hne h4 (by decide))).trans h4, hs.row h5 (fun g hg e => ho v h4 (e ▸ hg))⟩, h6.kept hs ?_, (hs.block _ (blk_lt h7) (fun e => by rw [e, hcb] at h7; cases h7)).trans h7⟩
  rintro k rfl
  exact ⟨by omega, by omega⟩
/-- One claim more. -/
theorem CI.more (h : CI w q f M mb D acc s W) {v v' : Value} (hv : W.heap[mb]? = some (.cells (M v) 26 (0, 0))) (hown : W.ownsRow w.heap.size 50 2 v acc.length (csC acc)) {o : Obj} (c : Int × Nat) (hm : w.heap.size ≤ mb) (hq : q < w.heap.size) (hf : f < w.heap.size)
    (hM : (M v).setIfInBounds 8 v' = M v') (hmr : mb ≠ w.heap.size + 1) (ho : W'.ownsRow w.heap.size 50 2 v' (acc.length + 1) (csC acc ++ [.int .i64 c.1, .int .u32 (c.2 : Nat)])) (hg : (W.alloc o).grownBy W' v.ownBlock) :
    W'.heap[mb]? = some (.cells (M v) 26 (0, 0)) ∧ W'.frozen? ⟨mb, 8, none⟩ = false ∧ CI w q f M mb D (acc ++ [c]) s (W'.setCell ⟨mb, 8, none⟩ v') := by
  obtain ⟨h1, h2, h3, _, h6, h7⟩ := h
  have K1 : Kept (fun k => v.ownBlock = some k) W W' := ((Kept.refl _ W).alloc o).grown hg (fun k e => .inl e)
  have hnr : ∀ {k : Nat} {c : Array Value} {t : TypeId} {z : Nat × Nat}, W.heap[k]? = some (.cells c t z) → t ≠ 50 → ¬ v.ownBlock = some k := fun {k c t z} hk ht => row_apart hown hk ht
  have b4 : W'.heap[mb]? = some (.cells (M v) 26 (0, 0)) := (K1.block _ (blk_lt hv) (hnr hv (by decide))).trans hv
  have hs := (Kept.refl (fun k => k = mb) W').setCell (p := ⟨mb, 8, none⟩) (.inl rfl) v'
  have hne : ∀ {k : Nat} {c : Array Value} {t : TypeId} {z : Nat × Nat}, W'.heap[k]? = some (.cells c t z) → t ≠ 26 → k ≠ mb := fun {k c t z} hk ht e => by
    subst e
    rw [b4] at hk
    injection hk with hk
    injection hk with _ h8 _
    exact ht h8.symm
  have hown' : v'.ownBlock ≠ some mb := row_apart ho b4 (by decide)
  have r1 : Rd q f s W' := h6.kept K1 (fun k e => by
    have hk := (hown.lt k e).1
    exact ⟨by omega, by omega⟩)
  refine ⟨b4, blk_free b4 8, (h1.trans K1 (fun i hi e => by have := (hown.lt i e).1; omega)).trans hs (fun i hi e => by omega), ?_, ?_, ⟨v', ?_, ?_⟩, r1.kept hs ?_, ?_⟩
  · have := (K1.block _ (blk_lt h2) (hnr h2 (by decide))).trans h2
    exact (hs.block _ (blk_lt this) (hne this (by decide))).trans this
  · have hb := (K1.block _ (blk_lt h3) (hnr h3 (by decide))).trans h3
    exact (hs.block _ (blk_lt hb) (fun e => hmr e.symm)).trans hb
  · rw [blk_set b4, hM]
  · rw [csC_snoc, List.length_append]
    exact hs.row ho (fun g hg e => hown' (e ▸ hg))
  · rintro k rfl
    exact ⟨by omega, by omega⟩
  · have : W'.heap[D]? = some (.deferred (some [])) := (K1.block _ (blk_lt h7) (fun e => by obtain ⟨c, hc⟩ := row_block hown e; rw [hc] at h7; cases h7)).trans h7
    exact (hs.block _ (blk_lt this) (fun e => by rw [e, b4] at this; cases this)).trans this
end

theorem rdF_8 (l : List Nat) (s : RS) (h : ∀ c ∈ s.1, c < 256) : 0 ≤ (rdF l s).1 8 ∧ (rdF l s).1 8 < 256 := by
  have : ∀ (l : List Nat) (a : (Nat → Int) × RS), (∀ c ∈ a.2.1, c < 256) → 0 ≤ a.1 8 ∧ a.1 8 < 256 → 0 ≤ (l.foldl rdF1 a).1 8 ∧ (l.foldl rdF1 a).1 8 < 256 := by
    intro l
    induction l with
    | nil => exact fun a _ h => h
    | cons x l ih =>
      intro a h1 h2
      refine ih _ (tkS_in h1) ?_
      show 0 ≤ (if 8 = x then tkI (wid x) a.2 else a.1 8) ∧ (if 8 = x then tkI (wid x) a.2 else a.1 8) < 256
      split
      · rename_i e
        subst e
        have := tkI_bd (w := wid 8) (s := a.2) (by decide) h1
        have e1 : (256 : Nat) ^ wid 8 = 256 := rfl
        rw [e1] at this
        omega
      · exact h2
  exact this l _ h ⟨Int.le_refl _, (by decide : (0 : Int) < 256)⟩
theorem rdC_len : ∀ (n : Nat) (s : RS), (rdC n s).1.length = n
  | 0, s => rfl
  | n + 1, s => by simp [rdC, rdC_len n]
theorem rdM_bd {s : RS} (h : ∀ c ∈ s.1, c < 256) : (rdM s).1.gen < 4294967296 ∧ (rdM s).1.stamp < 18446744073709551616 ∧ (rdM s).1.claims.length ≤ 255 := by
  refine ⟨?_, ?_, ?_⟩
  · show u32 _ < _
    unfold u32; omega
  · show Wr.u64 _ < _
    unfold Wr.u64; omega
  · show (rdC _ _).1.length ≤ 255
    rw [rdC_len]
    have := (rdF_8 (flds (tkI 1 s)) (tkS 1 s) (tkS_in h)).2
    omega
def TkI (w : World) (q f : Nat) (s0 : RS) (bn : Nat) (pre : List Fl) (W : World) : Prop := TI w q f s0 bn (pre.map (fun x : Fl => x.1)) W

def TakenPost (w : World) (q f : Nat) (s : RS) (e : Ending) (W' : World) : Prop :=
  ∃ A cap, e = .returned (msgA (rdM s).1 A (rdM s).1.claims.length cap) ∧ ClaimsAt W' A (rdM s).1.claims ∧ Rd q f (rdM s).2 W' ∧ Kept (fun k => k = q ∨ k = f) w W' ∧ /- hasT -/ ∀ a, A = some a → ∃ c, W'.heap[a.block]? = some (.cells c 50 (0, 0))

set_option maxHeartbeats 8000000 in
theorem taken_any {w : World} (hT : Tab w) {q f : Nat} {s : RS} (hR : Rd q f s w) (hne : q ≠ f) (hs : s.1.length ≤ 100000) (hg : 0 ≠ q ∧ 0 ≠ f ∧ 1 ≠ q ∧ 1 ≠ f) :
    Calls Tryd.prog 28 #[takeF q f] w (TakenPost w q f s) := by
  have HT := Lib.hid hT
  have HR := Lib.hid hR
  have HNE := Lib.hid hne
  have hq := blk_lt hR.flt
  have hqq : q < w.heap.size := by obtain ⟨_, _, h, _⟩ := hR.var; exact blk_lt h
  have HG := Lib.hid hg
  clear hT hR hne hg
  obtain ⟨P, hP⟩ : ∃ P : Ending → World → Prop, P = TakenPost w q f s := ⟨_, rfl⟩
  have HQ : Hid (∀ W' A cap, ClaimsAt W' A (rdM s).1.claims → Rd q f (rdM s).2 W' → Kept (fun k => k = q ∨ k = f) w W' → (∀ a, A = some a → ∃ c, W'.heap[a.block]? = some (.cells c 50 (0, 0))) → P (.returned (msgA (rdM s).1 A (rdM s).1.claims.length cap)) W') := by rw [hP]; exact fun W' A cap h1 h2 h3 h4 => ⟨A, cap, rfl, h1, h2, h3, h4⟩
  rw [← hP]
  clear hP
  refine (callsIn_wide (n := 9)).1 ?_
  refine callsIn_of_wp_marks Tryd.func28 rfl trivial ?_ rfl
  simp only [Tryd.ntmps28, List.size_toArray, List.length_cons, List.length_nil, Nat.reduceAdd, Nat.reduceSub, Array.replicate_succ, Array.replicate_zero, List.push_toArray, List.append_toArray, List.nil_append, List.cons_append]
  gi_wp2_with fail
  refine ⟨trivial, (callsIn_wide.2 (tkv_any (((HR.out.alloc _).alloc _).alloc _) 1 (by omega) hs HNE.out)).mono ?_⟩
  rintro e w1 ⟨rfl, hr1, hk1⟩
  obtain ⟨K, hK⟩ : ∃ K, K = tkI 1 s := ⟨_, rfl⟩
  rw [← hK]
  have hkw : Kept (fun k => k = q ∨ k = f) w w1 := ((((Kept.refl (fun k => k = q ∨ k = f) w).alloc (.cells #[takeF q f] 65)).alloc (.cells msgZ 26)).alloc (.cells (arr9 (fun _ => 0)) 53)).trans hk1 (fun _ _ h => h)
  have hqf : ∀ k, w.heap.size ≤ k → ¬ (k = q ∨ k = f) := by rintro k hk (e | e) <;> omega
  have hb0 : w1.heap[w.heap.size]? = some (.cells #[takeF q f] 65 (0, 0)) := (hk1.block _ (by simp; omega) (hqf _ (by omega))).trans ((Below.heap_alloc _ _ _ (by simp; omega)).trans ((Below.heap_alloc _ _ _ (by simp)).trans (World.alloc_heap_new w _)))
  have hb1 : w1.heap[w.heap.size + 1]? = some (.cells msgZ 26 (0, 0)) := (hk1.block _ (by simp) (hqf _ (by omega))).trans ((Below.heap_alloc _ _ _ (by simp)).trans (by
    have := World.alloc_heap_new (w.alloc (.cells #[takeF q f] 65)) (.cells msgZ 26)
    rwa [World.size_alloc] at this))
  have hb2 : w1.heap[w.heap.size + 1 + 1]? = some (.cells (arr9 (fun _ => 0)) 53 (0, 0)) := (hk1.block _ (by simp) (hqf _ (by omega))).trans (by
    have := World.alloc_heap_new ((w.alloc (.cells #[takeF q f] 65)).alloc (.cells msgZ 26)) (.cells (arr9 (fun _ => 0)) 53)
    rwa [World.size_alloc, World.size_alloc] at this)
  have HRM : Hid (rdM s = (⟨K, (rdF (flds K) (tkS 1 s)).1 1, u32 ((rdF (flds K) (tkS 1 s)).1 2), u64 ((rdF (flds K) (tkS 1 s)).1 3), (rdF (flds K) (tkS 1 s)).1 4, (rdF (flds K) (tkS 1 s)).1 5, (rdF (flds K) (tkS 1 s)).1 6, i8 ((rdF (flds K) (tkS 1 s)).1 7), (rdC ((rdF (flds K) (tkS 1 s)).1 8).toNat (rdF (flds K) (tkS 1 s)).2).1⟩, (rdC ((rdF (flds K) (tkS 1 s)).1 8).toNat (rdF (flds K) (tkS 1 s)).2).2)) := by rw [Hid, hK]; rfl
  have hs1 := Nat.le_trans (tkS_len 1 s) hs
  have HIN : Hid (∀ c ∈ (tkS 1 s).1, c < 256) := tkS_in HR.out.lt
  obtain ⟨s0, hs0⟩ : ∃ s0, s0 = tkS 1 s := ⟨_, rfl⟩
  rw [← hs0] at HRM hr1 hs1 HIN
  clear hK hs0 hk1 HR
  have HKW := Lib.hid hkw
  have HB0 := Lib.hid hb0
  have HB1 := Lib.hid hb1
  have HB2 := Lib.hid hb2
  have HR1 := Lib.hid hr1
  clear hkw hb0 hb1 hb2 hr1
  gi_wp2_with fail
  refine ⟨trivial, (callsIn_wide.2 (named_any _ _)).mono ?_⟩
  rintro e w2 ⟨rfl, rfl⟩
  gi_wp2_with fail
  obtain ⟨W0, hW0⟩ : ∃ W0, namedW w1 K = W0 := ⟨_, rfl⟩
  have hz : W0.heap.size = w1.heap.size + 1 := by rw [← hW0]; exact namedW_size w1 K
  have hzw := HKW.out.size
  have HZ := Lib.hid hz
  have hk0 : W0.cell? ⟨w1.heap.size, 0, none⟩ = some (.int .i64 K) := by rw [← hW0]; exact namedW_cell w1 K
  have hka : Kept (fun _ => False) w1 W0 := by rw [← hW0]; exact (Kept.refl _ w1).alloc _
  have hlb2 := blk_lt HB2.out
  have h0 : TI w q f s0 (w.heap.size + 1 + 1) [] W0 := ⟨HKW.out.trans hka (fun _ _ h => h.elim), (hka.block _ (blk_lt HB0.out) id).trans HB0.out, (hka.block _ (blk_lt HB1.out) id).trans HB1.out, (hka.block _ hlb2 id).trans HB2.out, HR1.out.kept hka (fun _ h => h.elim)⟩
  have hT0 : Tab W0 := HT.out.kept h0.kept (fun h => h.elim HG.out.1 HG.out.2.1) (fun h => h.elim HG.out.2.2.1 HG.out.2.2.2)
  rw [hW0]
  clear hW0 hka hz
  have HK0 := Lib.hid hk0
  have HT0 := Lib.hid hT0
  have HI0 := Lib.hid h0
  clear hk0 hT0 h0
  refine wpIn_rangeFunc_ownG rfl (by omega) (gf := 31) (lb := #[.pointer (some ⟨w1.heap.size, 0, none⟩)]) rfl trivial (enters_of Tryd.func31 (by kernel_rfl) rfl)
    (named_stops (9 - 1) (by omega) HT0.out HK0.out) (fun _ _ => trivial) (fun _ _ _ _ _ _ _ _ => trivial) (Below.refl _ _) (fun _ => rfl)
    (TkI w q f s0 (w.heap.size + 1 + 1)) (fun _ _ _ => False) (fun pre A B row h hg hr => TI.from (B := W0.heap.size) (by have := HZ.out; omega) _ A B row h hg hr) (fun _ _ _ _ _ h _ _ => h) HI0.out
    (fun x => { tmps := #[takeF q f, .pointer (some ⟨w.heap.size, 0, none⟩), .pointer (some ⟨w.heap.size + 1, 0, none⟩), .pointer (some ⟨w.heap.size + 1 + 1, 0, none⟩), .int .i64 K, .int .i64 (x.1 : Nat), undef, undef, takeF q f, .int .i64 K, .int .i64 K, .func (.func 31) #[] #[.pointer (some ⟨w1.heap.size, 0, none⟩)], .int .i64 (x.1 : Nat), undef, undef, undef, undef, undef, undef, undef, undef, undef, undef, undef, undef, undef, undef, undef, undef, undef, undef, undef, undef, undef, undef, undef, undef, undef, undef, undef, undef, undef, undef, undef, undef, undef, undef, undef, undef, undef, undef, undef, undef, undef, undef, undef, undef, undef, undef, undef, undef, undef, undef, undef, undef, undef], defers := [] })
    ?assign ?body ?done ?stop
  case assign =>
    intro l x W K hK
    simp only [flV]
    gi_wp2
    exact hK
  case body =>
    rintro l pre x W hI0 hlen
    have hI : TI w q f s0 (w.heap.size + 1 + 1) (pre.map (fun x : Fl => x.1)) W := hI0
    clear hI0
    have hx := x.2
    have hx9 : (x.1 : Int) < 9 := by omega
    have c1 : W.drew.cell? ⟨w.heap.size, 0, none⟩ = some (takeF q f) := by
      have : W.drew.heap[w.heap.size]? = _ := hI.fb
      rw [blk_cell this]; rfl
    have c2 : W.drew.cell? ⟨0, x.1 * 3, none⟩ = some (.int .i64 (wid x.1 : Nat)) := (HT.out.kept hI.kept (fun h => h.elim HG.out.1 HG.out.2.1) (fun h => h.elim HG.out.2.2.1 HG.out.2.2.2)).rw_ x.1 (by omega)
    have hrl := Nat.le_trans (rdF_len (pre.map (fun x : Fl => x.1)) s0) hs1
    have HTK : Hid (Calls Tryd.prog 32 #[.int .i64 (wid x.1 : Nat), .pointer (some ⟨q, 0, none⟩), .pointer (some ⟨f, 0, none⟩)] W.drew fun e W' => e = .returned (.int .i64 (tkI (wid x.1) (rdF (pre.map (fun x : Fl => x.1)) s0).2)) ∧ Rd q f (tkS (wid x.1) (rdF (pre.map (fun x : Fl => x.1)) s0).2) W' ∧ Kept (fun k => k = q ∨ k = f) W.drew W') :=
      tkv_any (W := W.drew) ⟨hI.rd.var, hI.rd.flt, hI.rd.lt⟩ (wid x.1) (wid_le x.1 (by omega)) hrl HNE.out
    have HON : Hid (∀ wa, Rd q f (tkS (wid x.1) (rdF (pre.map (fun x : Fl => x.1)) s0).2) wa → Kept (fun k => k = q ∨ k = f) W.drew wa →
        (∃ u, wa.cell? ⟨w.heap.size + 1 + 1, x.1, none⟩ = some (.int .i64 u)) ∧ wa.frozen? ⟨w.heap.size + 1 + 1, x.1, none⟩ = false ∧
        (KeepsFrom W0.heap.size W (wa.setCell ⟨w.heap.size + 1 + 1, x.1, none⟩ (.int .i64 (tkI (wid x.1) (rdF (pre.map (fun x : Fl => x.1)) s0).2))) ∧ True ∧ TkI w q f s0 (w.heap.size + 1 + 1) (pre ++ [x]) (wa.setCell ⟨w.heap.size + 1 + 1, x.1, none⟩ (.int .i64 (tkI (wid x.1) (rdF (pre.map (fun x : Fl => x.1)) s0).2))))) := fun wa h1 h2 => by
      have hb : wa.heap[w.heap.size + 1 + 1]? = some (.cells (arr9 (rdF (pre.map (fun x : Fl => x.1)) s0).1) 53 (0, 0)) := (h2.block _ (blk_lt hI.nb) (hqf _ (by omega))).trans hI.nb
      refine ⟨⟨_, by rw [blk_cell hb]; exact arr9_get _ (by omega)⟩, blk_free hb _, ?_⟩
      have := ti_on hI (by omega) hqq hq (by omega) h1 h2 W0.heap.size (by have := HZ.out; omega)
      refine ⟨this.1, trivial, ?_⟩
      unfold TkI
      rw [List.map_append, List.map_cons, List.map_nil]
      exact this.2.2
    clear hI hrl hqf
    generalize pre ++ [x] = pre2 at *
    generalize (rdF (pre.map (fun x : Fl => x.1)) s0).2 = sr at *
    generalize x.1 = fx at *
    gi_wp2_with fail
    refine wpIn_inv_round (TkInv w q f K w1.heap.size fx sr (w.heap.size + 1 + 1) W) (by kernel_rfl) (by kernel_rfl) (by kernel_rfl) ?hsz ?hstep ?hdone ?h0
    case hsz =>
      rintro l a wr ⟨l0, l1, l2, l3, l4, l5, l6, l7, l8, _, _, _, _, _, _, _, _, rfl, _⟩
      rfl
    case h0 =>
      refine ⟨false, false, false, false, false, false, false, false, false, undef, undef, undef, undef, undef, undef, undef, undef, rfl, rfl, by simp, by simp, by simp, by simp, by simp, by simp, by simp, by simp, by simp, .inl ⟨rfl, rfl⟩⟩
    case hdone =>
      rintro l a wr ⟨l0, l1, l2, l3, l4, l5, l6, l7, l8, x13, x14, x15, x16, x17, x18, x19, x20, rfl, rfl, q0, q1, q2, q3, q4, q5, q7, q68, q86, hw⟩ hall
      obtain rfl : l6 = true := hall 6 (by decide)
      obtain rfl : l8 = true := hall 8 (by decide)
      rcases hw with ⟨h, _⟩ | ⟨_, _, wa, ha, hb, rfl⟩
      · cases h
      · have HF := Lib.hid (HON.out wa ha hb).2.2
        clear ha hb hall q0 q1 q2 q3 q4 q5 q7 q68 q86 HON HTK c1 c2
        rw [if_pos rfl]
        gi_wp2
        exact HF.out
    case hstep =>
      rintro l a wr i o ⟨l0, l1, l2, l3, l4, l5, l6, l7, l8, x13, x14, x15, x16, x17, x18, x19, x20, rfl, rfl, q0, q1, q2, q3, q4, q5, q7, q68, q86, hw⟩ hl ho haft
      have hi9 : i < 9 := (Array.getElem?_eq_some_iff.1 ho).1
      rcases (by omega : i = 0 ∨ i = 1 ∨ i = 2 ∨ i = 3 ∨ i = 4 ∨ i = 5 ∨ i = 6 ∨ i = 7 ∨ i = 8) with rfl | rfl | rfl | rfl | rfl | rfl | rfl | rfl | rfl
      all_goals (simp only [List.getElem?_toArray, List.getElem?_cons_zero, List.getElem?_cons_succ, Option.some.injEq] at ho; subst ho)
      · -- 0
        go_simp
        exact ⟨true, l1, l2, l3, l4, l5, l6, l7, l8, _, x14, x15, x16, x17, x18, x19, x20, rfl, rfl, fun _ => rfl, q1, q2, q3, q4, q5, q7, q68, q86, hw⟩
      · -- 1
        obtain rfl : l1 = false := hl
        obtain ⟨rfl, rfl⟩ : l6 = false ∧ wr = W.drew := by
          rcases hw with h | ⟨h, _⟩
          · exact h
          · exact absurd (q68 h).1 (by decide)
        go_simp
        exact ⟨l0, true, l2, l3, l4, l5, false, l7, l8, x13, _, x15, x16, x17, x18, x19, x20, rfl, rfl, q0, fun _ => rfl, q2, q3, q4, q5, q7, by simp, q86, .inl ⟨rfl, rfl⟩⟩
      · -- 2
        go_simp
        exact ⟨l0, l1, true, l3, l4, l5, l6, l7, l8, x13, x14, _, x16, x17, x18, x19, x20, rfl, rfl, q0, q1, fun _ => rfl, q3, q4, q5, q7, q68, q86, hw⟩
      · -- 3
        obtain rfl : l2 = true := haft ⟨2, .data⟩ (by simp) rfl
        obtain rfl := q2 rfl
        go_simp
        exact ⟨l0, l1, true, true, l4, l5, l6, l7, l8, x13, x14, _, _, x17, x18, x19, x20, rfl, rfl, q0, q1, q2, fun _ => rfl, q4, q5, q7, q68, q86, hw⟩
      · -- 4
        obtain rfl : l3 = true := haft ⟨3, .data⟩ (by simp) rfl
        obtain rfl := q3 rfl
        go_simp
        exact ⟨l0, l1, l2, true, true, l5, l6, l7, l8, x13, x14, x15, _, _, x18, x19, x20, rfl, rfl, q0, q1, q2, q3, fun _ => rfl, q5, q7, q68, q86, hw⟩
      · -- 5
        obtain rfl : l5 = false := hl
        obtain rfl : l4 = true := haft ⟨4, .data⟩ (by simp) rfl
        obtain rfl := q4 rfl
        obtain ⟨rfl, rfl⟩ : l6 = false ∧ wr = W.drew := by
          rcases hw with h | ⟨h, _⟩
          · exact h
          · exact absurd (q68 h).2 (by decide)
        go_simp
        exact ⟨l0, l1, l2, l3, true, true, false, l7, l8, x13, x14, x15, x16, _, _, x19, x20, rfl, rfl, q0, q1, q2, q3, q4, fun _ => rfl, q7, by simp, q86, .inl ⟨rfl, rfl⟩⟩
      · -- 6
        obtain rfl : l6 = false := hl
        obtain rfl : l1 = true := haft ⟨1, .data⟩ (by simp) rfl
        obtain rfl : l5 = true := haft ⟨5, .data⟩ (by simp) rfl
        obtain rfl := q1 rfl
        obtain rfl := q5 rfl
        obtain rfl : l8 = false := by
          cases l8 with
          | false => rfl
          | true => exact absurd (q86 rfl) (by decide)
        obtain rfl : wr = W.drew := by
          rcases hw with h | ⟨h, _⟩
          · exact h.2
          · cases h
        go_simp
        refine HTK.out.mono ?_
        rintro e w3 ⟨rfl, g1, g2⟩
        exact ⟨l0, true, l2, l3, l4, true, true, l7, false, x13, _, x15, x16, x17, _, _, x20, rfl, rfl, q0, q1, q2, q3, q4, q5, q7, fun _ => ⟨rfl, rfl⟩, by simp, .inr ⟨rfl, rfl, w3, g1, g2, rfl⟩⟩
      · -- 7
        obtain rfl : l0 = true := haft ⟨0, .data⟩ (by simp) rfl
        obtain rfl := q0 rfl
        go_simp
        exact ⟨true, l1, l2, l3, l4, l5, l6, true, l8, _, x14, x15, x16, x17, x18, x19, _, rfl, rfl, q0, q1, q2, q3, q4, q5, fun _ => rfl, q68, q86, hw⟩
      · -- 8
        obtain rfl : l8 = false := hl
        obtain rfl : l6 = true := haft ⟨6, .data⟩ (by simp) rfl
        obtain rfl : l7 = true := haft ⟨7, .data⟩ (by simp) rfl
        obtain rfl := q7 rfl
        obtain ⟨rfl, rfl⟩ := q68 rfl
        obtain rfl := q1 rfl
        obtain rfl := q5 rfl
        rcases hw with ⟨h, _⟩ | ⟨_, rfl, wa, g1, g2, hwa⟩
        · cases h
        · have hwa' : wr = wa := hwa
          clear hwa
          subst hwa'
          obtain ⟨⟨u, hu⟩, hfz, _⟩ := HON.out wr g1 g2
          go_simp
          exact ⟨l0, true, l2, l3, l4, true, true, true, true, x13, _, x15, x16, x17, _, _, _, rfl, rfl, q0, q1, q2, q3, q4, q5, q7, q68, fun _ => rfl, .inr ⟨rfl, rfl, wr, g1, g2, rfl⟩⟩
  case done =>
    rintro D xs W hD hS hI0 hK
    have hI : TI w q f s0 (w.heap.size + 1 + 1) (xs.map (fun x : Fl => x.1)) W := hI0
    have hS' : xs.map (fun x : Fl => x.1) = flds K := hS
    rw [hS'] at hI
    have hrl := Nat.le_trans (rdF_len (flds K) s0) hs1
    have hin := rdF_in (flds K) s0 HIN.out
    have H8 := Lib.hid (rdF_8 (flds K) s0 HIN.out)
    obtain ⟨nf, hnf⟩ : ∃ nf, nf = (rdF (flds K) s0).1 := ⟨_, rfl⟩
    obtain ⟨sr, hsr⟩ : ∃ sr, sr = (rdF (flds K) s0).2 := ⟨_, rfl⟩
    rw [← hnf, ← hsr] at HRM
    rw [← hsr] at hrl hin
    rw [← hnf] at H8
    obtain ⟨t1, t2, t3, t4, t5⟩ := hI
    rw [← hnf] at t4
    rw [← hsr] at t5
    clear hS hS' hnf hsr hI0
    have HKE := Lib.hid t1
    have HF := Lib.hid t2
    have HB := Lib.hid t3
    have HN : Hid (∀ j, j < 9 → W.cell? ⟨w.heap.size + 1 + 1, j, none⟩ = some (.int .i64 (nf j))) := fun j hj => by rw [blk_cell t4]; exact arr9_get _ hj
    have HRD := Lib.hid t5
    clear t1 t2 t3 t4 t5
    have n1 := HN.out 1 (by omega)
    have n2 := HN.out 2 (by omega)
    have n3 := HN.out 3 (by omega)
    have n4 := HN.out 4 (by omega)
    have n5 := HN.out 5 (by omega)
    have n6 := HN.out 6 (by omega)
    have n7 := HN.out 7 (by omega)
    have n8 : ∀ o, (W.alloc o).cell? ⟨w.heap.size + 1 + 1, 8, none⟩ = some (.int .i64 (nf 8)) := fun o => ((Kept.refl (fun _ => False) W).alloc o).cell (HN.out 8 (by omega)) id
    have e2 : IntKind.u32.wrap (nf 2) = ((u32 (nf 2) : Nat) : Int) := by rw [IntKind.wrap_u32']; unfold u32; omega
    have e3 : IntKind.u64.wrap (nf 3) = ((u64 (nf 3) : Nat) : Int) := by simp [IntKind.wrap, IntKind.bits, IntKind.signed, u64]; omega
    have e7 : IntKind.i8.wrap (nf 7) = i8 (nf 7) := by simp [IntKind.wrap, IntKind.bits, IntKind.signed, i8]
    have e8 : IntKind.i64.wrap (i8 (nf 7)) = i8 (nf 7) := by rw [wrap_w64]; unfold w64 i8; split <;> omega
    obtain ⟨i0, hi, hz0, hz1, hz2⟩ := info_parts Tryd.infoClaim
    obtain ⟨N, hN⟩ := Int.eq_ofNat_of_zero_le H8.out.1
    have hN256 : N < 256 := by have := H8.out.2; omega
    rw [hN, Int.toNat_natCast] at HRM
    rw [hN] at n8
    have hWs := HKE.out.size
    have HC0 : Hid (CI w q f (fun v => #[.int .i64 K, .int .i64 (nf 1), .int .u32 ((Wr.u32 (nf 2) : Nat) : Int), .int .u64 ((Wr.u64 (nf 3) : Nat) : Int), .int .i64 (nf 4), .int .i64 (nf 5), .int .i64 (nf 6), .int .i64 (i8 (nf 7)), v]) W.heap.size D [] sr (W.alloc (.cells ((fun v => #[.int .i64 K, .int .i64 (nf 1), .int .u32 ((Wr.u32 (nf 2) : Nat) : Int), .int .u64 ((Wr.u64 (nf 3) : Nat) : Int), .int .i64 (nf 4), .int .i64 (nf 5), .int .i64 (nf 6), .int .i64 (i8 (nf 7)), v]) (.slice none 0 0)) 26))) := by
      have hka := (Kept.refl (fun _ => False) W).alloc (.cells ((fun v => #[.int .i64 K, .int .i64 (nf 1), .int .u32 ((Wr.u32 (nf 2) : Nat) : Int), .int .u64 ((Wr.u64 (nf 3) : Nat) : Int), .int .i64 (nf 4), .int .i64 (nf 5), .int .i64 (nf 6), .int .i64 (i8 (nf 7)), v]) (.slice none 0 0)) 26)
      refine ⟨HKE.out.alloc _, (hka.block _ (blk_lt HF.out) id).trans HF.out, (hka.block _ (blk_lt HB.out) id).trans HB.out, ⟨_, World.alloc_heap_new W _, World.ownsRow_nil _ _ _ _⟩, HRD.out.alloc _, (hka.block _ (blk_lt hK) id).trans hK⟩
    have hD2 : w.heap.size ≤ D := by have := HZ.out; omega
    clear hK hN
    gi_wp2
    gi_loopw [43] (fun i wr => ∃ (k : Nat) (acc : List (Int × Nat)) (sk : RS), k ≤ N ∧ i = .int .i64 (k : Int) ∧ acc.length = k ∧ (rdC N sr).1 = acc ++ (rdC (N - k) sk).1 ∧ (rdC N sr).2 = (rdC (N - k) sk).2 ∧ sk.1.length ≤ 100000 ∧ CI w q f (fun v => #[.int .i64 K, .int .i64 (nf 1), .int .u32 ((Wr.u32 (nf 2) : Nat) : Int), .int .u64 ((Wr.u64 (nf 3) : Nat) : Int), .int .i64 (nf 4), .int .i64 (nf 5), .int .i64 (nf 6), .int .i64 (i8 (nf 7)), v]) W.heap.size D acc sk wr) (fun i _ => N - (intOf i).toNat)
    case atStart => exact ⟨0, [], sr, Nat.zero_le _, rfl, rfl, rfl, rfl, hrl, HC0.out⟩
    case round =>
      obtain ⟨k, acc, sk, hk, rfl, hacc, g1, g2, g3, hC⟩ := hrel
      rename World => V
      have HG1 := Lib.hid g1
      have HG2 := Lib.hid g2
      have HC := Lib.hid hC
      have HACC := Lib.hid hacc
      clear g1 g2 hC hacc HC0 n1 n2 n3 n4 n5 n6 n7 n8 e2 e3 e7 e8 hrl hin
      by_cases hlt : k < N
      · obtain ⟨j, hj⟩ : ∃ j, N - k = j + 1 := ⟨N - k - 1, by omega⟩
        have HJ : Hid (N - (k + 1) = j) := by show _ = _; omega
        rw [hj] at HG1 HG2
        have v1 : V.cell? ⟨w.heap.size, 0, none⟩ = some (takeF q f) := by rw [blk_cell HC.out.fb]; rfl
        have v2 : V.cell? ⟨0, 3, none⟩ = some (.int .i64 2) := (HT.out.kept HC.out.kept (fun h => h.elim HG.out.1 HG.out.2.1) (fun h => h.elim HG.out.2.2.1 HG.out.2.2.2)).rw_ 1 (by omega)
        have HLT : Hid (k < N) := hlt
        clear hj
        gi_wp2_with fail
        refine ⟨trivial, (callsIn_wide.2 (tkv_any HC.out.rd 2 (by omega) g3 HNE.out)).mono ?_⟩
        rintro e V1 ⟨rfl, hr1, hk1⟩
        have hC1 := HC.out.take hqq hq hWs hD2 hr1 hk1
        have HC1 := Lib.hid hC1
        have gs1 := Nat.le_trans (tkS_len 2 sk) g3
        have w1' : ∀ o, (V1.alloc o).cell? ⟨w.heap.size, 0, none⟩ = some (takeF q f) := fun o => by rw [blk_cell (HC1.out.alloc o).fb]; rfl
        have w2' : ∀ o, (V1.alloc o).cell? ⟨0, 6, none⟩ = some (.int .i64 4) := fun o => (HT.out.kept (HC1.out.alloc o).kept (fun h => h.elim HG.out.1 HG.out.2.1) (fun h => h.elim HG.out.2.2.1 HG.out.2.2.2)).rw_ 2 (by omega)
        clear hr1 hk1 hC1 v1 v2
        obtain ⟨c1, hc1⟩ : ∃ c1, c1 = tkI 2 sk := ⟨_, rfl⟩
        rw [← hc1]
        have HE1 := Lib.hid hc1
        clear hc1
        gi_wp2_with fail
        refine ⟨trivial, (callsIn_wide.2 (tkv_any (HC1.out.alloc (.cells #[.int .i64 c1, .int .u32 0] 50)).rd 4 (by omega) gs1 HNE.out)).mono ?_⟩
        rintro e V2 ⟨rfl, hr2, hk2⟩
        have hC2 := (HC1.out.alloc (.cells #[.int .i64 c1, .int .u32 0] 50)).take hqq hq hWs hD2 hr2 hk2
        have hs1 := HC1.out.kept.size
        have hqf : ∀ k, w.heap.size ≤ k → ¬ (k = q ∨ k = f) := by rintro k hk (e | e) <;> omega
        have hcb : V2.heap[V1.heap.size]? = some (.cells #[.int .i64 c1, .int .u32 0] 50 (0, 0)) := (hk2.block _ (by simp) (hqf _ hs1)).trans (World.alloc_heap_new V1 _)
        have hmb1 := blk_lt HC1.out.mb_.choose_spec.1
        have hown1 : ∀ v, V2.heap[W.heap.size]? = some (.cells ((fun v => #[.int .i64 K, .int .i64 (nf 1), .int .u32 ((Wr.u32 (nf 2) : Nat) : Int), .int .u64 ((Wr.u64 (nf 3) : Nat) : Int), .int .i64 (nf 4), .int .i64 (nf 5), .int .i64 (nf 6), .int .i64 (i8 (nf 7)), v]) v) 26 (0, 0)) → v.ownBlock ≠ some V1.heap.size := by
          intro v hv e
          obtain ⟨v1, hv1, ho1⟩ := HC1.out.mb_
          have hv2 := (hk2.block _ (by simp; omega) (hqf _ hWs)).trans ((Below.heap_alloc _ _ _ hmb1).trans hv1)
          rw [hv] at hv2
          have : v = v1 := by simpa using hv2
          subst this
          have := (ho1.lt _ e).2
          omega
        obtain ⟨c2, hc2⟩ : ∃ c2, c2 = Wr.u32 (tkI 4 (tkS 2 sk)) := ⟨_, rfl⟩
        have e2 : IntKind.u32.wrap (tkI 4 (tkS 2 sk)) = (c2 : Int) := by rw [IntKind.wrap_u32', hc2]; unfold Wr.u32; omega
        have hC3 := hC2.cset hcb hs1 hqq hq hown1 (.int .u32 (c2 : Int))
        have x0 : V2.cell? ⟨V1.heap.size, 1, none⟩ = some (.int .u32 0) := by rw [blk_cell hcb]; rfl
        have x1 := blk_free hcb 1
        have hcb3 := blk_set hcb 1 (.int .u32 (c2 : Int))
        have x2 : (V2.setCell ⟨V1.heap.size, 1, none⟩ (.int .u32 (c2 : Int))).cell? ⟨V1.heap.size, 0, none⟩ = some (.int .i64 c1) := by rw [blk_cell hcb3]; rfl
        have x3 : (V2.setCell ⟨V1.heap.size, 1, none⟩ (.int .u32 (c2 : Int))).cell? ⟨V1.heap.size, 1, none⟩ = some (.int .u32 (c2 : Int)) := by rw [blk_cell hcb3]; rfl
        have HC3 := Lib.hid hC3
        obtain ⟨v, hv, hown⟩ := hC3.mb_
        have x4 : (V2.setCell ⟨V1.heap.size, 1, none⟩ (.int .u32 (c2 : Int))).cell? ⟨W.heap.size, 8, none⟩ = some v := by rw [blk_cell hv]; rfl
        have HV := Lib.hid hown
        have HVB := Lib.hid hv
        have gs2 := Nat.le_trans (tkS_len 4 (tkS 2 sk)) gs1
        have HR : Hid ((rdC (j + 1) sk).1 = (c1, c2) :: (rdC j (tkS 4 (tkS 2 sk))).1 ∧ (rdC (j + 1) sk).2 = (rdC j (tkS 4 (tkS 2 sk))).2) := by rw [HE1.out, hc2]; exact ⟨rfl, rfl⟩
        clear hr2 hk2 hC2 hC3 hs1 hqf hcb hmb1 hown1 hcb3 hv hown HE1 hc2 w1' w2'
        generalize tkS 4 (tkS 2 sk) = sk2 at *
        generalize tkI 4 (tkS 2 sk) = t4 at *
        have hlen : acc.length ≤ 256 := by have := HACC.out; omega
        obtain ⟨L, hL⟩ : ∃ L, L = acc.length := ⟨_, rfl⟩
        rw [← hL] at HV hlen
        have HL := Lib.hid hL
        clear hL
        have HFN : Hid (∀ V4 v' o, V4.ownsRow w.heap.size 50 2 v' (L + 1) (csC acc ++ [.int .i64 c1, .int .u32 (c2 : Int)]) → ((V2.setCell ⟨V1.heap.size, 1, none⟩ (.int .u32 (c2 : Int))).alloc o).grownBy V4 v.ownBlock →
            V4.cell? ⟨W.heap.size, 8, none⟩ = some v ∧ V4.frozen? ⟨W.heap.size, 8, none⟩ = false ∧ Hid (CI w q f (fun v => #[.int .i64 K, .int .i64 (nf 1), .int .u32 ((Wr.u32 (nf 2) : Nat) : Int), .int .u64 ((Wr.u64 (nf 3) : Nat) : Int), .int .i64 (nf 4), .int .i64 (nf 5), .int .i64 (nf 6), .int .i64 (i8 (nf 7)), v]) W.heap.size D (acc ++ [(c1, c2)]) sk2 (V4.setCell ⟨W.heap.size, 8, none⟩ v'))) := by
          intro V4 v' o h1 h2
          rw [HL.out] at h1 HV
          have := HC3.out.more HVB.out HV.out (o := o) (c1, c2) hWs hqq hq rfl (by have := blk_lt HB.out; have := blk_lt HF.out; intro e; omega) h1 h2
          exact ⟨by rw [blk_cell this.1]; rfl, this.2.1, this.2.2⟩
        gi_wp2_with (gi_at_builtin; refine wpListIn_append_own_at _ rfl _ _ 24 rfl w.heap.size 50 i0 (.agg #[.int .i64 0, .int .u32 0]) 2 16 Tryd.underlying24 hi hz0 hz1 hz2 rfl (by decide) _ L _ rfl (HV.out.alloc _) ⟨V2.heap.size, 0, none⟩ 1 1 [.int .i64 c1, .int .u32 (c2 : Int)] rfl rfl ?b1 ?b2 ?b3 ?b4 ?b5 ?b6)
        case b1 =>
          intro j u hu
          have := World.news_of_block (heap_alloc_new (V2.setCell ⟨V1.heap.size, 1, none⟩ (.int .u32 (c2 : Int))) (.cells #[.int .i64 c1, .int .u32 (c2 : Int)] 50)) j u hu
          rw [show (V2.setCell ⟨V1.heap.size, 1, none⟩ (.int .u32 (c2 : Int))).heap.size = V2.heap.size by simp] at this
          exact this
        case b2 => intro u hu; simp at hu; rcases hu with rfl | rfl <;> rfl
        case b3 => unfold maxLen; omega
        case b4 => omega
        case b5 => have := HC3.out.kept.size; simp at this ⊢; omega
        intro v' V4 hown' hgrow _ _
        obtain ⟨g', cap', rfl⟩ := ownsRow_succ hown'
        obtain ⟨y1, y2, y3⟩ := HFN.out _ _ _ hown' hgrow
        have HFR : Hid ((rdC N sr).1 = (acc ++ [(c1, c2)]) ++ (rdC (N - (k + 1)) sk2).1 ∧ (rdC N sr).2 = (rdC (N - (k + 1)) sk2).2 ∧ (acc ++ [(c1, c2)]).length = k + 1) := by
          rw [Hid, HG1.out, HG2.out, HJ.out, HR.out.1, HR.out.2]
          refine ⟨by simp, rfl, by have := HACC.out; simp; omega⟩
        clear hown' hgrow HFN x0 x1 x2 x3 x4 e2
        gi_wp2
        go_roundw
        case rel => exact ⟨k + 1, acc ++ [(c1, c2)], sk2, by have := HLT.out; omega, by go_num, HFR.out.2.2, HFR.out.1, HFR.out.2.1, gs2, y3.out⟩
        case measure => have := HLT.out; simp [intOf]; omega
      · obtain rfl : k = N := by omega
        rw [Nat.sub_self] at HG1 HG2
        have HG1' : Hid ((rdC k sr).1 = acc) := by have := HG1.out; rw [Hid, this]; show acc ++ [] = acc; simp
        have HG2' : Hid ((rdC k sr).2 = sk) := HG2.out
        obtain ⟨v, hv, hown⟩ := HC.out.mb_
        have HVC : Hid (∀ j u, ((fun v => #[.int .i64 K, .int .i64 (nf 1), .int .u32 ((Wr.u32 (nf 2) : Nat) : Int), .int .u64 ((Wr.u64 (nf 3) : Nat) : Int), .int .i64 (nf 4), .int .i64 (nf 5), .int .i64 (nf 6), .int .i64 (i8 (nf 7)), v]) v)[j]? = some u → V.cell? ⟨W.heap.size, j, none⟩ = some u) := fun j u hu => by rw [blk_cell hv]; exact hu
        have m0 := HVC.out 0 _ rfl
        have m1 := HVC.out 1 _ rfl
        have m2 := HVC.out 2 _ rfl
        have m3 := HVC.out 3 _ rfl
        have m4 := HVC.out 4 _ rfl
        have m5 := HVC.out 5 _ rfl
        have m6 := HVC.out 6 _ rfl
        have m7 := HVC.out 7 _ rfl
        have m8 := HVC.out 8 _ rfl
        clear hv
        have r0 : V.cell? ⟨w.heap.size + 1, 0, none⟩ = some (msgZ.getD 0 undef) := by rw [blk_cell HC.out.rb]; rfl
        have s0 := blk_free HC.out.rb 0
        have r1 : V.cell? ⟨w.heap.size + 1, 1, none⟩ = some (msgZ.getD 1 undef) := by rw [blk_cell HC.out.rb]; rfl
        have s1 := blk_free HC.out.rb 1
        have r2 : V.cell? ⟨w.heap.size + 1, 2, none⟩ = some (msgZ.getD 2 undef) := by rw [blk_cell HC.out.rb]; rfl
        have s2 := blk_free HC.out.rb 2
        have r3 : V.cell? ⟨w.heap.size + 1, 3, none⟩ = some (msgZ.getD 3 undef) := by rw [blk_cell HC.out.rb]; rfl
        have s3 := blk_free HC.out.rb 3
        have r4 : V.cell? ⟨w.heap.size + 1, 4, none⟩ = some (msgZ.getD 4 undef) := by rw [blk_cell HC.out.rb]; rfl
        have s4 := blk_free HC.out.rb 4
        have r5 : V.cell? ⟨w.heap.size + 1, 5, none⟩ = some (msgZ.getD 5 undef) := by rw [blk_cell HC.out.rb]; rfl
        have s5 := blk_free HC.out.rb 5
        have r6 : V.cell? ⟨w.heap.size + 1, 6, none⟩ = some (msgZ.getD 6 undef) := by rw [blk_cell HC.out.rb]; rfl
        have s6 := blk_free HC.out.rb 6
        have r7 : V.cell? ⟨w.heap.size + 1, 7, none⟩ = some (msgZ.getD 7 undef) := by rw [blk_cell HC.out.rb]; rfl
        have s7 := blk_free HC.out.rb 7
        have r8 : V.cell? ⟨w.heap.size + 1, 8, none⟩ = some (msgZ.getD 8 undef) := by rw [blk_cell HC.out.rb]; rfl
        have s8 := blk_free HC.out.rb 8
        obtain ⟨A, cap, rfl, hcl⟩ := claims_own hown
        have h9 := wr9_facts HC.out.rb (.int .i64 K) (.int .i64 (nf 1)) (.int .u32 ((Wr.u32 (nf 2) : Nat) : Int)) (.int .u64 ((Wr.u64 (nf 3) : Nat) : Int)) (.int .i64 (nf 4)) (.int .i64 (nf 5)) (.int .i64 (nf 6)) (.int .i64 (i8 (nf 7))) (.slice A acc.length cap)
        obtain ⟨W9, hW9⟩ : ∃ W9, W9 = wr9 V (w.heap.size + 1) (.int .i64 K) (.int .i64 (nf 1)) (.int .u32 ((Wr.u32 (nf 2) : Nat) : Int)) (.int .u64 ((Wr.u64 (nf 3) : Nat) : Int)) (.int .i64 (nf 4)) (.int .i64 (nf 5)) (.int .i64 (nf 6)) (.int .i64 (i8 (nf 7))) (.slice A acc.length cap) := ⟨_, rfl⟩
        rw [← hW9] at h9
        have HE : Hid ((rdM s).1 = ⟨K, nf 1, Wr.u32 (nf 2), Wr.u64 (nf 3), nf 4, nf 5, nf 6, i8 (nf 7), acc⟩ ∧ (rdM s).2 = sk) := by rw [Hid, HRM.out]; exact ⟨by rw [HG1'.out], HG2'.out⟩
        have hD9 : W9.heap[D]? = some (.deferred (some [])) := (h9.2.block D (blk_lt HC.out.dd) (fun e => by have h := HC.out.rb; rw [← e, HC.out.dd] at h; cases h)).trans HC.out.dd
        have hsz9 := HC.out.kept.size
        have hlb := blk_lt HC.out.rb
        have HFIN : Hid (P (.returned (msgA ⟨K, nf 1, Wr.u32 (nf 2), Wr.u64 (nf 3), nf 4, nf 5, nf 6, i8 (nf 7), acc⟩ A acc.length cap)) (W9.putObj D (.deferred none))) := by
          have hk9 : Kept (fun k => k = w.heap.size + 1 ∨ k = D) V (W9.putObj D (.deferred none)) := (h9.2.mono (fun _ _ h => .inl h)).grown (grownBy_putObj' W9 D _) (fun k e => by cases e; exact .inl (.inr rfl))
          have h5 := HQ.out (W9.putObj D (.deferred none)) A cap
          rw [HE.out.1, HE.out.2] at h5
          refine h5 (hcl.kept hk9 (fun a ha e => ?_)) (HC.out.rd.kept hk9 (fun k e => ?_)) (HC.out.kept.trans hk9 (fun i hi e => by rcases e with e | e <;> omega)) (fun a ha => ?_)
          · subst ha
            rcases e with e | e
            · exact row_apart hown HC.out.rb (by decide) (by rw [← e]; rfl)
            · obtain ⟨c, hc⟩ := row_block hown (g := a.block) rfl
              have h := HC.out.dd
              rw [← e, hc] at h
              cases h
          · rcases e with rfl | rfl
            · exact ⟨by omega, by omega⟩
            · exact ⟨by omega, by omega⟩
          · subst ha
            obtain ⟨c, hc⟩ := row_block hown (g := a.block) rfl
            refine ⟨c, (hk9.block _ (blk_lt hc) ?_).trans hc⟩
            rintro (e | e)
            · exact row_apart hown HC.out.rb (by decide) (by rw [← e]; rfl)
            · have h := HC.out.dd
              rw [← e, hc] at h
              cases h
        have hb10 : (W9.putObj D (.deferred none)).heap[w.heap.size + 1]? = some (.cells #[.int .i64 K, .int .i64 (nf 1), .int .u32 ((Wr.u32 (nf 2) : Nat) : Int), .int .u64 ((Wr.u64 (nf 3) : Nat) : Int), .int .i64 (nf 4), .int .i64 (nf 5), .int .i64 (nf 6), .int .i64 (i8 (nf 7)), .slice A acc.length cap] 26 (0, 0)) := (World.putObj_heap_other (by intro e; have h := HC.out.rb; rw [e, HC.out.dd] at h; cases h)).trans h9.1
        have q0 : (W9.putObj D (.deferred none)).cell? ⟨w.heap.size + 1, 0, none⟩ = some (.int .i64 K) := by rw [blk_cell hb10]; rfl
        have q1 : (W9.putObj D (.deferred none)).cell? ⟨w.heap.size + 1, 1, none⟩ = some (.int .i64 (nf 1)) := by rw [blk_cell hb10]; rfl
        have q2 : (W9.putObj D (.deferred none)).cell? ⟨w.heap.size + 1, 2, none⟩ = some (.int .u32 ((Wr.u32 (nf 2) : Nat) : Int)) := by rw [blk_cell hb10]; rfl
        have q3 : (W9.putObj D (.deferred none)).cell? ⟨w.heap.size + 1, 3, none⟩ = some (.int .u64 ((Wr.u64 (nf 3) : Nat) : Int)) := by rw [blk_cell hb10]; rfl
        have q4 : (W9.putObj D (.deferred none)).cell? ⟨w.heap.size + 1, 4, none⟩ = some (.int .i64 (nf 4)) := by rw [blk_cell hb10]; rfl
        have q5 : (W9.putObj D (.deferred none)).cell? ⟨w.heap.size + 1, 5, none⟩ = some (.int .i64 (nf 5)) := by rw [blk_cell hb10]; rfl
        have q6 : (W9.putObj D (.deferred none)).cell? ⟨w.heap.size + 1, 6, none⟩ = some (.int .i64 (nf 6)) := by rw [blk_cell hb10]; rfl
        have q7 : (W9.putObj D (.deferred none)).cell? ⟨w.heap.size + 1, 7, none⟩ = some (.int .i64 (i8 (nf 7))) := by rw [blk_cell hb10]; rfl
        have q8 : (W9.putObj D (.deferred none)).cell? ⟨w.heap.size + 1, 8, none⟩ = some (.slice A acc.length cap) := by rw [blk_cell hb10]; rfl
        clear h9 hown hcl hb10
        gi_wp2
        change bodyPostM _ _ _ _ _ _ _ (wr9 V (w.heap.size + 1) (.int .i64 K) (.int .i64 (nf 1)) (.int .u32 ((Wr.u32 (nf 2) : Nat) : Int)) (.int .u64 ((Wr.u64 (nf 3) : Nat) : Int)) (.int .i64 (nf 4)) (.int .i64 (nf 5)) (.int .i64 (nf 6)) (.int .i64 (i8 (nf 7))) (.slice A acc.length cap))
        rw [← hW9]
        clear hW9
        refine ⟨by simp, .inl ⟨_, _, rfl, run_takeDeferred hD9, ?_⟩⟩
        generalize W9.putObj D (.deferred none) = W10 at *
        refine ⟨msgA ⟨K, nf 1, Wr.u32 (nf 2), Wr.u64 (nf 3), nf 4, nf 5, nf 6, i8 (nf 7), acc⟩ A acc.length cap, ?_, HFIN.out⟩
        simp [results, Tryd.results28, go_sem, q0, q1, q2, q3, q4, q5, q6, q7, q8]
  case stop =>
    rintro D c pre W hD hS h
    exact h.elim
end Go.Proofs.YtmfbokaaoffdnaaDoor
