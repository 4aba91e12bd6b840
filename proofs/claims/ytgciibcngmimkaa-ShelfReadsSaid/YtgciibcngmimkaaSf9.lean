/-
  shelf.Bytes, shelf.Same.
-/
import Derived.Test.YtgciibcngmimkaaSf8
import Derived.Maps.OwnIn
namespace Go.Proofs.Ytgciibcngmimkaa
set_option maxRecDepth 100000
set_option linter.unusedSimpArgs false
open Go Go.RowKit Sf
attribute [local go_sem] Oper.semAt_some

theorem heap2 (w : World) (o1 o2 : Obj) : ((w.alloc o1).alloc o2).heap[w.heap.size]? = some o1 ∧ ((w.alloc o1).alloc o2).heap[w.heap.size + 1]? = some o2 := by
  refine ⟨?_, ?_⟩
  · rw [Below.heap_alloc _ _ _ (by simp only [World.size_alloc]; omega)]
    exact World.alloc_heap_new w _
  · have := World.alloc_heap_new (w.alloc o1) o2
    rwa [World.size_alloc] at this
/-- A list in a variable, behind an append and the store of what it gave. -/
theorem var_snoc {W Wa W2 : World} {q F size n n' : Nat} {tv te : TypeId} {v v' : Value} {xs zs : List Value}
    (h1 : W.heap[q]? = some (.cells #[v] tv (0, 0))) (h2 : W.ownsRow F te size v n xs) (hq : q < F) (ha : Below W.heap.size W Wa) (hg : Wa.grownBy W2 v.ownBlock) (ho : W2.ownsRow F te size v' n' zs) :
    (W2.cell? ⟨q, 0, none⟩ = some v ∧ W2.frozen? ⟨q, 0, none⟩ = false) ∧ (W2.setCell ⟨q, 0, none⟩ v').heap[q]? = some (.cells #[v'] tv (0, 0)) ∧ (W2.setCell ⟨q, 0, none⟩ v').ownsRow F te size v' n' zs ∧
      Kept (fun k => k = q ∨ v.ownBlock = some k) W (W2.setCell ⟨q, 0, none⟩ v') ∧ (∀ k, v.ownBlock = some k → F ≤ k ∧ k < W.heap.size ∧ ∃ c f, W.heap[k]? = some (.cells c te f)) := by
  have hne : ∀ k, v.ownBlock = some k → F ≤ k ∧ k < W.heap.size ∧ ∃ c f, W.heap[k]? = some (.cells c te f) := by
    intro k e
    rcases h2.2 with ⟨rfl, _⟩ | ⟨g', cap, cur, rfl, hb, hgg, _⟩
    · cases e
    · have : g' = k := by simpa [Value.ownBlock] using e
      subst this
      exact ⟨hb, blk_lt hgg, _, _, hgg⟩
  have hne' : ∀ k, v'.ownBlock = some k → F ≤ k := fun k e => (ho.lt k e).1
  have K1 : Kept (fun k => v.ownBlock = some k) W W2 := (Kept.of_below ha (Nat.le_refl _)).grown hg (fun k e => .inl e)
  have b2 : W2.heap[q]? = some (.cells #[v] tv (0, 0)) := (K1.block q (blk_lt h1) (fun e => by have := (hne q e).1; omega)).trans h1
  refine ⟨⟨by rw [blk_cell b2]; rfl, blk_free b2 0⟩, by rw [blk_set b2]; rfl, ?_, (K1.mono (fun _ _ h => .inr h)).setCell (p := ⟨q, 0, none⟩) (.inl (.inl rfl)) _, hne⟩
  exact Kept.row ((Kept.refl (fun k => k = q) W2).setCell (p := ⟨q, 0, none⟩) (.inl rfl) _) ho (fun k hk e => by have := hne' k hk; omega)
theorem bytes_src {w : World} {ad : Addr} {l : List Nat} (h : BytesAt w (some ad) l) : ∀ (j : Nat) (u : Value), (l.map byV)[j]? = some u → w.cell? (ad.add j) = some u := by
  intro j u hu
  have hj : j < l.length := by
    rcases Nat.lt_or_ge j l.length with h | h
    · exact h
    · rw [List.getElem?_eq_none (by simpa using h)] at hu; cases hu
  obtain ⟨a', e1, h2⟩ := h j hj
  cases e1
  rw [h2, ← hu]
  simp [List.getD, hj]
/-- A list of bytes of its own. -/
def ByQ (w : World) (l : List Nat) (e : Ending) (w' : World) : Prop := ∃ v, e = .returned v ∧ w'.ownsRow w.heap.size 5 1 v l.length (l.map byV) ∧ Below w.heap.size w w'
/-- The bytes of some records, in a variable. -/
structure ByI (w : World) (M : List Ent) (pre : List (Ent × Value)) (W : World) : Prop where
  below : Below w.heap.size w W
  q : ∃ v, W.heap[w.heap.size]? = some (.cells #[v] 30 (0, 0)) ∧ W.ownsRow (w.heap.size + 2) 5 1 v (byM (pre.map (·.1))).length ((byM (pre.map (·.1))).map byV)
  size : w.heap.size + 2 ≤ W.heap.size
  pre : pre.map (·.1) <+: M
section
variable {w : World} {M : List Ent} {pre : List (Ent × Value)} {W W' : World}
theorem ByI.from : OwnFrom (w.heap.size + 2) (ByI w M) := by
  intro pre W W' row h hg hr
  have hk : ∀ k, k < w.heap.size + 2 → W'.heap[k]? = W.heap[k]? := fun k hk => hg.block k (Nat.lt_of_lt_of_le hk h.size) (fun e => by have := (hr k e.symm).1; omega)
  obtain ⟨v, h1, h2⟩ := h.q
  refine ⟨h.below.trans ⟨hg.os, hg.tape, hg.output, hg.size, fun k hk' => hk k (by omega)⟩, ⟨v, (hk _ (by omega)).trans h1, h2.kept hg ?_⟩, Nat.le_trans h.size hg.size, h.pre⟩
  rcases h2.2 with ⟨rfl, _⟩ | ⟨g', cap, cur, rfl, _, hgg, _⟩
  · exact .inl rfl
  · refine .inr (fun e => ?_)
    obtain ⟨_, o, ho, hc⟩ := hr g' (e.symm)
    rw [hgg] at ho
    cases ho
    cases hc
theorem ByI.take (h : ByI w M pre W) (ht : Kept (fun _ => False) W W') : ByI w M pre W' := by
  obtain ⟨v, h1, h2⟩ := h.q
  exact ⟨h.below.trans (ht.below (fun _ h => h.elim) (by have := h.size; omega)), ⟨v, (ht.block _ (by have := h.size; omega) id).trans h1, ht.row h2 (fun _ _ => id)⟩, Nat.le_trans h.size ht.size, h.pre⟩
end
theorem byM_len {M : List Ent} (h : ∀ e ∈ M, OkE e) (hl : M.length ≤ 4096) : (byM M).length ≤ 1029 * 4096 := by
  have : (byM M).length ≤ 1029 * M.length := by
    clear hl
    induction M with
    | nil => simp [byM]
    | cons e M ih =>
      have h1 := (h e (by simp)).len
      have := ih (fun e he => h e (by simp [he]))
      rw [byM_cons, List.length_append, enB_length, List.length_cons]; omega
  have : 1029 * M.length ≤ 1029 * 4096 := Nat.mul_le_mul_left _ hl
  omega

set_option maxHeartbeats 4000000 in
theorem bytes_any {w : World} {p0 : Option Addr} {M : List Ent} (h : ShP w p0 M) :
    Calls Try.prog 20 #[.pointer p0] w (ByQ w (byM M)) := by
  obtain ⟨i0, hi, hz0, hz1, hz2⟩ := info_parts Try.infoU8
  refine (callsIn_wide (n := 9)).1 ?_
  refine callsIn_of_wp_marks Try.func20 rfl trivial ?_ rfl
  simp only [Try.ntmps20, List.size_toArray, List.length_cons, List.length_nil, Nat.reduceAdd, Nat.reduceSub, Array.replicate_succ, Array.replicate_zero, List.push_toArray, List.append_toArray, List.nil_append, List.cons_append]
  have HH := Lib.hid h
  clear h
  gi_wp2_with fail
  refine ⟨trivial, (callsIn_wide.2 (told_any _ _)).mono ?_⟩
  rintro x W0 ⟨rfl, hW0⟩
  have hz : W0.heap.size = w.heap.size + 2 := by rw [hW0]; simp
  have hk0 : Kept (fun _ => False) w W0 := by rw [hW0]; exact ((Kept.refl _ w).alloc _).alloc _
  obtain ⟨b1, b2⟩ := heap2 w (.cells #[.slice none 0 0] 30) (.cells #[.pointer p0] 24)
  rw [← hW0] at b1 b2
  have hsz1 : (w.alloc (.cells #[.slice none 0 0] 30)).heap.size = w.heap.size + 1 := by simp
  rw [hsz1]
  clear hW0 hsz1
  have hb0 : Below w.heap.size w W0 := hk0.below (fun _ h => h.elim) (Nat.le_refl _)
  obtain ⟨X, hX⟩ : ∃ X : Nat → Prop, X = fun k => k = w.heap.size := ⟨_, rfl⟩
  have hTells := told_p (9 - 1) (by omega) HH.out hb0 b2 (X := X) (fun k hk => by rw [hX] at hk; omega) (fun k cur f hc e => by
    rw [hX] at e
    rw [e, b1] at hc
    injection hc with hc
    injection hc with _ h _
    exact absurd h (by decide))
  have hI0 : ByI w M [] W0 := ⟨hb0, ⟨_, b1, World.ownsRow_nil _ _ _ _⟩, by omega, List.nil_prefix⟩
  have hXw0 : X w.heap.size := by rw [hX]
  have hOk := HH.out.ok
  clear hX
  gi_wp2_with fail
  refine range_w (by omega) (gf := 36) (lb := #[.pointer (some ⟨w.heap.size + 1, 0, none⟩)]) rfl (enters_of Try.func36 (by kernel_rfl) rfl)
    (encs := enR) (fun _ => rfl) hTells (Below.refl _ _)
    (fun A C ht => ⟨ht.size, fun k o _ ho hc => (ht.block k (blk_lt ho) id).trans ho⟩) (fun h k => h.trans k)
    (fun W l' o o' hl' h1 h2 => KpF.put W l' o o' hl' h1 h2)
    (ByI w M) (fun _ _ _ => False) (by rw [hz]; exact ByI.from) (fun c xs A C row h _ _ => h.elim) (fun xs A C h ht => h.take ht) hI0
    (fun pre x a' W => ∃ bk, W0.heap.size ≤ bk ∧ W.heap[bk]? = some (.cells #[.int .i64 ((x.1.1 / 65536 : Nat) : Int), .int .i64 ((x.1.1 % 65536 : Nat) : Int), x.2] 32 (0, 0)) ∧ (pre.map (·.1) ++ [x.1] <+: M ∧ R8 W x.2 x.1.2 ∧ ∀ v g, W.cell? ⟨w.heap.size, 0, none⟩ = some v → v.ownBlock = some g → x.2.ownBlock ≠ some g) ∧ a' = { tmps := #[.pointer p0, undef, .slice none 0 0, .pointer (some ⟨w.heap.size, 0, none⟩), .pointer (some ⟨bk, 0, none⟩), undef, .pointer p0, .func (.func 36) #[] #[.pointer (some ⟨w.heap.size + 1, 0, none⟩)], .agg #[.int .i64 ((x.1.1 / 65536 : Nat) : Int), .int .i64 ((x.1.1 % 65536 : Nat) : Int), x.2], undef, undef, undef, undef, undef, undef, undef, undef, undef, undef, undef, undef, undef, undef, undef, undef, undef, undef, undef, undef, undef, undef, undef, undef, undef, undef], defers := [] })
    ?hAx ?assign ?body ?done ?stop
  case hAx =>
    rintro pre x a' _ W W' row ⟨bk, h1, h2, ⟨h3, h4, h6⟩, h5⟩ hg hr
    refine ⟨bk, h1, (hg.block bk (blk_lt h2) (fun e => ?_)).trans h2, ⟨h3, R8.blocks (X := fun k => row = some k) h4 (fun k h1 h2 => hg.block k h1 (fun e => h2 e.symm)) (fun k cur f hc e => ?_), fun v g hc hv => h6 v g ?_ hv⟩, h5⟩
    · obtain ⟨_, o1, h4, h5⟩ := hr bk e.symm
      rw [h2] at h4
      cases h4
      cases h5
    · obtain ⟨_, o1, h4, h5⟩ := hr k e
      rw [hc] at h4
      cases h4
      cases h5
    · have hbW := blk_lt h2
      have : W'.heap[w.heap.size]? = W.heap[w.heap.size]? := hg.block _ (by omega) (fun e => by have := (hr _ e.symm).1; omega)
      rw [← hc]
      exact (World.cell?_of_block this).symm
  case assign =>
    rintro l' pre ⟨⟨p, d⟩, v⟩ Wb W K hIb hI ⟨hp1, hp2, hp3, hp4⟩ hK
    dsimp only at hp1 hp2 hp3 hK
    obtain ⟨A, cap, rfl, _⟩ := row_bytes hp2
    have hs := hI.size
    have hW : W0.heap.size ≤ W.heap.size := by omega
    have hT : Kept (fun _ => False) W (W.alloc (.cells #[.int .i64 ((p / 65536 : Nat) : Int), .int .i64 ((p % 65536 : Nat) : Int), .slice A d.length cap] 32)) := (Kept.refl _ W).alloc _
    have HK := hK { tmps := #[.pointer p0, undef, .slice none 0 0, .pointer (some ⟨w.heap.size, 0, none⟩), .pointer (some ⟨W.heap.size, 0, none⟩), undef, .pointer p0, .func (.func 36) #[] #[.pointer (some ⟨w.heap.size + 1, 0, none⟩)], .agg #[.int .i64 ((p / 65536 : Nat) : Int), .int .i64 ((p % 65536 : Nat) : Int), .slice A d.length cap], undef, undef, undef, undef, undef, undef, undef, undef, undef, undef, undef, undef, undef, undef, undef, undef, undef, undef, undef, undef, undef, undef, undef, undef, undef, undef], defers := [] } _ ⟨by simp, fun k o _ ho _ => (Below.heap_alloc _ _ _ (blk_lt ho)).trans ho⟩
      (KpF.of_kept hT hW (fun _ h => h.elim) (fun _ h => h.elim)) (hI.take hT) ⟨W.heap.size, hW, World.alloc_heap_new W _, ⟨hp1, R8.kept hp2 hT (No8.none _), fun v g hc hv e => by
        obtain ⟨v1, g1, g2⟩ := hIb.q
        have hsb := hIb.size
        have e1 : (W.alloc (.cells #[.int .i64 ((p / 65536 : Nat) : Int), .int .i64 ((p % 65536 : Nat) : Int), .slice A d.length cap] 32)).heap[w.heap.size]? = some (.cells #[v1] 30 (0, 0)) :=
          (hT.block _ (by omega) id).trans ((hp4.block _ (by omega) id).trans g1)
        rw [blk_cell e1] at hc
        have : v1 = v := by simpa using hc
        subst this
        have := (g2.lt g hv).2
        have := hp3 g e
        omega⟩, rfl⟩
    clear hK hI hp1 hp2 hT
    dsimp only [enR]
    generalize ((p / 65536 : Nat) : Int) = pk at *
    generalize ((p % 65536 : Nat) : Int) = pn at *
    generalize d.length = L at *
    gi_wp2
    exact HK
  case body =>
    rintro l' pre x a' W hl' hI ⟨bk, hbk, hbx, ⟨hp, hv, hne⟩, rfl⟩
    have hpre := Ok.sub hOk hp
    have hE := hpre.each x.1 (by simp)
    have hlen := byM_len hpre.each hpre.len
    obtain ⟨v1, h1, h2⟩ := hI.q
    have hsz := hI.size
    have hbel := hI.below
    have hne2 := hne v1
    rw [blk_cell h1] at hne2
    have hne3 : ∀ g, v1.ownBlock = some g → x.2.ownBlock ≠ some g := fun g hg => hne2 g rfl hg
    have hpm : (pre ++ [x]).map (·.1) = pre.map (·.1) ++ [x.1] := by simp
    rw [byM_snoc, List.length_append, enB_length] at hlen
    obtain ⟨⟨p, d⟩, v⟩ := x
    dsimp only at *
    obtain ⟨A, cap, rfl, hdat, _, hcapm, hnil⟩ := row_bytes hv
    obtain ⟨k, hk⟩ : ∃ k, k = p / 65536 := ⟨_, rfl⟩
    obtain ⟨n, hn⟩ : ∃ n, n = p % 65536 := ⟨_, rfl⟩
    have hk255 : k ≤ 255 := by rw [hk]; exact hE.k
    have hn1024 : n ≤ 1024 := by rw [hn]; exact hE.n
    have hd1024 : d.length ≤ 1024 := hE.len
    have q0 : W.cell? ⟨bk, 0, none⟩ = some (.int .i64 (k : Int)) := by rw [blk_cell hbx, hk]; rfl
    have q1 : W.cell? ⟨bk, 1, none⟩ = some (.int .i64 (n : Int)) := by rw [blk_cell hbx, hn]; rfl
    have q2 : W.cell? ⟨bk, 2, none⟩ = some (.slice A d.length cap) := by rw [blk_cell hbx]; rfl
    have c0 : W.cell? ⟨w.heap.size, 0, none⟩ = some v1 := by rw [blk_cell h1]; rfl
    rw [← hk, ← hn]
    obtain ⟨L0, hL0⟩ : ∃ L0, L0 = (byM (pre.map (·.1))).length := ⟨_, rfl⟩
    obtain ⟨xs, hxs⟩ : ∃ xs, xs = (byM (pre.map (·.1))).map byV := ⟨_, rfl⟩
    rw [← hL0, ← hxs] at h2
    rw [← hL0] at hlen
    obtain ⟨five, h5⟩ : ∃ five, five = [Value.int .u8 ((k : Int) % 256), .int .u8 ((n : Int) / 256 % 256), .int .u8 ((n : Int) % 256), .int .u8 ((d.length : Int) / 256 % 256), .int .u8 ((d.length : Int) % 256)] := ⟨_, rfl⟩
    have h5b : five ++ d.map byV = (enB (p, d)).map byV := by
      have e0 : p / 65536 = k := hk.symm
      have e1 : p % 65536 = n := hn.symm
      rw [h5]
      simp only [enB, hdB, List.map_append, List.map_cons, List.map_nil, byV, e0, e1]
      rw [show (k : Int) % 256 = (k : Int) by omega, show (n : Int) / 256 % 256 = ((n / 256 : Nat) : Int) by omega, show (n : Int) % 256 = ((p % 256 : Nat) : Int) by omega, show (d.length : Int) / 256 % 256 = ((d.length / 256 : Nat) : Int) by omega, show (d.length : Int) % 256 = ((d.length % 256 : Nat) : Int) by omega]
    obtain ⟨ad, rfl⟩ : ∃ ad, A = some ad := by
      cases A with
      | none => exact absurd (hnil rfl).1 hE.ne
      | some ad => exact ⟨ad, rfl⟩
    have hadW : ∀ g, (Value.slice (some ad) d.length cap).ownBlock = some g → g < W.heap.size := fun g hg => (hv.lt g hg).2
    -- behind the first append, and its store
    have HF : Hid (∀ (W2 : World) v', (W.alloc (.cells five.toArray 5)).grownBy W2 v1.ownBlock → W2.ownsRow (w.heap.size + 2) 5 1 v' (L0 + 5) (xs ++ five) → (v'.ownBlock = v1.ownBlock ∨ v'.ownBlock = some (W.alloc (.cells five.toArray 5)).heap.size) →
        (W2.cell? ⟨w.heap.size, 0, none⟩ = some v1 ∧ W2.frozen? ⟨w.heap.size, 0, none⟩ = false) ∧ ∃ W3, W2.setCell ⟨w.heap.size, 0, none⟩ v' = W3 ∧ W3.cell? ⟨w.heap.size, 0, none⟩ = some v' ∧ W3.cell? ⟨bk, 2, none⟩ = some (.slice (some ad) d.length cap) ∧
          (∀ (j : Nat) (u : Value), (d.map byV)[j]? = some u → W3.cell? (ad.add j) = some u) ∧ W3.ownsRow (w.heap.size + 2) 5 1 v' (L0 + 5) (xs ++ five) ∧ w.heap.size + 2 ≤ W3.heap.size ∧
          ∀ (W4 : World) v'', W3.grownBy W4 v'.ownBlock → W4.ownsRow (w.heap.size + 2) 5 1 v'' (L0 + 5 + d.length) (xs ++ five ++ d.map byV) →
            (W4.cell? ⟨w.heap.size, 0, none⟩ = some v' ∧ W4.frozen? ⟨w.heap.size, 0, none⟩ = false) ∧ ownPostG W0.heap.size (KpF W0.heap.size X) (ByI w M) (fun _ _ _ => False) (pre ++ [((p, d), Value.slice (some ad) d.length cap)]) W .normal { tmps := #[], defers := [] } (W4.setCell ⟨w.heap.size, 0, none⟩ v'')) := by
      intro W2 v' hg ho hloc
      have hal : Below W.heap.size W (W.alloc (.cells five.toArray 5)) := (Below.refl _ _).alloc (Nat.le_refl _) _
      obtain ⟨a1, a2, a3, a4, a5⟩ := var_snoc h1 h2 (by omega) hal hg ho
      refine ⟨a1, _, rfl, by rw [blk_cell a2]; rfl, ?_, ?_, a3, Nat.le_trans hsz a4.size, fun W4 v'' hg4 ho4 => ?_⟩
      · refine a4.cell q2 ?_
        rintro (e | e)
        · exact absurd e (by show ¬ bk = w.heap.size; omega)
        · obtain ⟨_, _, c, f, h6⟩ := a5 bk e
          rw [hbx] at h6
          injection h6 with h6
          injection h6 with _ h6 _
          exact absurd h6 (by decide)
      · have : R8 (W2.setCell ⟨w.heap.size, 0, none⟩ v') (Value.slice (some ad) d.length cap) d := by
          refine a4.row hv (fun g hg e => ?_)
          rcases e with e | e
          · obtain ⟨c, f, h6⟩ := R8.blk hv hg
            rw [e, h1] at h6
            injection h6 with h6
            injection h6 with _ h6 _
            exact absurd h6 (by decide)
          · exact hne3 g e hg
        obtain ⟨A', cap', e, hd, _⟩ := row_bytes this
        cases e
        exact bytes_src hd
      · obtain ⟨c1, c2, c3, c4, c5⟩ := var_snoc a2 a3 (by omega) (Below.refl _ _) hg4 ho4
        have hvl : ∀ g, v'.ownBlock = some g → W0.heap.size ≤ g := fun g hg => by have := (c5 g hg).1; omega
        have hfin : ByI w M (pre ++ [((p, d), Value.slice (some ad) d.length cap)]) (W4.setCell ⟨w.heap.size, 0, none⟩ v'') := by
          refine ⟨(hbel.trans (a4.below (B := w.heap.size) (fun k hk => ?_) (by omega))).trans (c4.below (B := w.heap.size) (fun k hk => ?_) (by have := a4.size; omega)), ⟨v'', c2, ?_⟩, by have := a4.size; have := c4.size; omega, ?_⟩
          · rcases hk with rfl | hk
            · exact Nat.le_refl _
            · have := (a5 k hk).1; omega
          · rcases hk with rfl | hk
            · exact Nat.le_refl _
            · have := (c5 k hk).1; omega
          · have e1 : (pre ++ [((p, d), Value.slice (some ad) d.length cap)]).map (·.1) = pre.map (·.1) ++ [(p, d)] := by simp
            rw [e1, byM_snoc, List.length_append, enB_length, List.map_append, ← h5b, ← hL0, ← hxs, ← List.append_assoc]
            have e2 : L0 + (5 + d.length) = L0 + 5 + d.length := by omega
            rw [e2]; exact c3
          · have e1 : (pre ++ [((p, d), Value.slice (some ad) d.length cap)]).map (·.1) = pre.map (·.1) ++ [(p, d)] := by simp
            rw [e1]; exact hp
        refine ⟨c1, ⟨by have := a4.size; have := c4.size; omega, fun k o hk ho hc => ?_⟩, ?_, hfin⟩
        · have s1 := (a4.block k (blk_lt ho) (by
            rintro (e | e)
            · omega
            · obtain ⟨_, _, c, f, h6⟩ := a5 k e; rw [ho] at h6; cases h6; cases hc)).trans ho
          exact (c4.block k (blk_lt s1) (by
            rintro (e | e)
            · omega
            · obtain ⟨_, _, c, f, h6⟩ := c5 k e; rw [s1] at h6; cases h6; cases hc)).trans s1
        · have kp : ∀ {A B : World} {u : Value}, Kept (fun k => k = w.heap.size ∨ u.ownBlock = some k) A B → W0.heap.size ≤ A.heap.size → (∃ z, A.heap[w.heap.size]? = some (.cells #[z] 30 (0, 0))) → (∀ k, u.ownBlock = some k → w.heap.size + 2 ≤ k ∧ k < A.heap.size ∧ ∃ c f, A.heap[k]? = some (.cells c 5 f)) → KpF W0.heap.size X A B := by
            intro A B u hk hA ⟨z, hzz⟩ hu
            refine KpF.of_kept hk hA (fun k hk hlt => ?_) (fun k hk cs f e => ?_)
            · rcases hk with rfl | hk
              · exact hXw0
              · have := (hu k hk).1; omega
            · rcases hk with rfl | hk
              · rw [hzz] at e
                injection e with e
                injection e with _ e _
                exact absurd e (by decide)
              · obtain ⟨_, _, c, f', h6⟩ := hu k hk
                rw [h6] at e
                injection e with e
                injection e with _ e _
                exact absurd e (by decide)
          exact (kp a4 (by omega) ⟨_, h1⟩ a5).trans (kp c4 (by have := a4.size; omega) ⟨_, a2⟩ c5)
    have HHL := Lib.hid hlen
    have HV := Lib.hid h2
    have HD := Lib.hid hd1024
    have HWs := Lib.hid hsz
    have HNe := Lib.hid (World.news_of_block (World.alloc_heap_new W (.cells five.toArray 5)))
    have h1d := byV_one d
    have hld : (d.map byV).length = d.length * 1 := by simp
    clear hk255 hn1024 hd1024 hlen h2 hne hne2 hne3 hv hI hbel hsz hpre hE hp hdat hnil hcapm hpm h5b hadW hTells hI0 hbx h1 hL0 hxs hk hn hz
    subst h5
    generalize d.map byV = ys at *
    generalize d.length = L at *
    gi_wp2_with (first
      | (gi_at_builtin; refine wpListIn_append_own_at _ rfl (.tmp 12) (.tmp 28) 30 rfl (w.heap.size + 2) 5 i0 (.int .u8 0) 1 1 Try.underlying30 hi hz0 hz1 hz2 rfl (by decide) v1 L0 xs rfl (HV.out.alloc _) ⟨W.heap.size, 0, none⟩ 5 5 _ rfl rfl HNe.out (by intro u hu; simp at hu; rcases hu with rfl | rfl | rfl | rfl | rfl <;> rfl) (by unfold maxLen; have := HHL.out; omega) (by have := HHL.out; omega) (by simp; have := HWs.out; omega) ?_; intro v' W2 hown' hgrow _ hat; obtain ⟨g', cap', rfl⟩ := ownsRow_succ hown'; obtain ⟨⟨hq1, hq2⟩, W3, hW3, e1, e2, e3, e4, e5, e6⟩ := HF.out _ _ hgrow hown' hat; have HE3 := Lib.hid e3; have HE4 := Lib.hid e4; have HE5 := Lib.hid e5; have HE6 := Lib.hid e6; clear hown' hgrow hat e3 e4 e5 e6)
      | (gi_at_builtin; refine wpListIn_append_own_at _ rfl (.tmp 30) (.tmp 32) 30 rfl (w.heap.size + 2) 5 i0 (.int .u8 0) 1 1 Try.underlying30 hi hz0 hz1 hz2 rfl (by decide) _ (L0 + 5) _ rfl HE4.out ad L cap ys rfl hld HE3.out h1d (by unfold maxLen; have := HHL.out; omega) (by have := HHL.out; omega) HE5.out ?_; intro v'' W4 hown4 hgrow4 _ hat4; obtain ⟨g4, cap4, rfl⟩ : ∃ g4 cap4, v'' = .slice (some ⟨g4, 0, none⟩) (L0 + 5 + L) cap4 := (by rw [show L0 + 5 + L = (L0 + 4 + L) + 1 by omega] at hown4 ⊢; exact ownsRow_succ hown4); obtain ⟨⟨hq3, hq4⟩, hfin⟩ := HE6.out _ _ hgrow4 hown4; have HFin := Lib.hid hfin; clear hown4 hgrow4 hat4 hfin))
    exact HFin.out
  case done =>
    rintro D xs W hD rfl hI hK
    have hI2 : ByI w (xs.map (·.1)) xs (W.putObj D (.deferred none)) := ByI.from xs W _ (some D) hI (grownBy_putObj' W D (.deferred none)) (fun r e => by cases e; exact ⟨by omega, _, hK, rfl⟩)
    obtain ⟨v, h1, h2⟩ := hI.q
    have c0 : W.cell? ⟨w.heap.size, 0, none⟩ = some v := by rw [blk_cell h1]; rfl
    have HQ : Hid (ByQ w (byM (xs.map (·.1))) (.returned v) (W.putObj D (.deferred none))) := by
      obtain ⟨v2, h3, h4⟩ := hI2.q
      have hsame : (W.putObj D (.deferred none)).heap[w.heap.size]? = W.heap[w.heap.size]? := World.putObj_heap_other (by omega)
      rw [hsame, h1] at h3
      have : v = v2 := by simpa using h3
      subst this
      exact ⟨v, rfl, row_base h4 (by omega), hI2.below⟩
    clear hI hI2 hTells hI0 h1 h2
    gi_wp2
    refine ⟨by simp, .inl ⟨_, _, rfl, run_takeDeferred hK, ?_⟩⟩
    refine ⟨_, ?_, HQ.out⟩
    exact (results_tmp (fn := Try.f20) (t := 2) rfl _ _ _)
  case stop => exact fun D c pre W hD h _ => h.elim
end Go.Proofs.Ytgciibcngmimkaa
