/-
  write, post, deny, grant of what is done.
-/
import Derived.Test.YtlmbbnkdiokabaaDoorLg2
namespace Go.Proofs.YtlmbbnkdiokabaaDoor
set_option maxRecDepth 100000
set_option linter.unusedSimpArgs false
open Go Go.RowKit Sp Lg

theorem Tryd.infoRec : (Tryd.prog.info? 54).map (fun i => (i.zero, i.size, i.bytes)) = some (some (.agg #[.int .i64 0, .int .i64 0, .slice none 0 0]), 3, 40) := by kernel_rfl
theorem Tryd.infoPost : (Tryd.prog.info? 63).map (fun i => (i.zero, i.size, i.bytes)) = some (some (.agg #[.int .i64 0, .int .i64 0, .int .i64 0, .int .u32 0, .int .u64 0, .int .i64 0, .int .i64 0, .int .i64 0, .int .i64 0, .slice none 0 0]), 10, 96) := by kernel_rfl
theorem Tryd.infoInt : (Tryd.prog.info? 3).map (fun i => (i.zero, i.size, i.bytes)) = some (some (.int .i64 0), 1, 8) := by kernel_rfl
/-- What a step leaves of what is done. -/
def OutS (w w' : World) (B o : Nat) (v : OV) (ws : List We) (ps : List Pe) (bs : List Nat) : Prop :=
  ∃ v', OutAt w' B o v' ws ps bs ∧ Kept (OfO o v) w w' ∧ ∀ k, OfO o v' k → OfO o v k ∨ w.heap.size ≤ k
section
variable {w : World} {B o : Nat} {v : OV} {ws : List We} {ps : List Pe} {bs : List Nat}
theorem recc (w : World) (a b c : Value) {t : TypeId} {B : Nat} (hB : B = w.heap.size) : ∀ j u, [a, b, c][j]? = some u → (w.alloc (.cells #[a, b, c] t)).cell? ((⟨B, 0, none⟩ : Addr).add j) = some u := by
  subst hB
  exact World.news_of_block (heap_alloc_new w _)
theorem write_any (h : OutAt w B o v ws ps bs) (hB : B ≤ w.heap.size) (x : We) (hx : R8 w x.d (recB x.e)) (hd : ∃ A n c, x.d = .slice A n c) (hl : ws.length ≤ 1000000) :
    Calls Tryd.prog 62 #[.pointer (some ⟨o, 0, none⟩), .agg #[.int .i64 3, .int .i64 x.c, x.d]] w fun e w' => e = .returned (.tuple #[]) ∧ OutS w w' B o v (ws ++ [x]) ps bs := by
  obtain ⟨i0, hi, hz0, hz1, hz2⟩ := info_parts Tryd.infoRec
  obtain ⟨A, dn, dc, hd⟩ := hd
  have hlt := blk_lt h.blk
  have HS : Hid (∀ t t' w2 g cap, (((w.alloc (.cells #[.int .i64 3, .int .i64 x.c, x.d] t)).drew).alloc (.cells #[.int .i64 3, .int .i64 x.c, x.d] t')).grownBy w2 v.w.ownBlock →
      w2.ownsRow B 54 3 (.slice (some ⟨g, 0, none⟩) (ws.length + 1) cap) (ws.length + 1) (csW ws ++ wcs x) → (v.w.ownBlock = some g ∨ g = w.heap.size + 1 + 1) →
      (w2.cell? ⟨o, 0, none⟩ = some v.w ∧ w2.frozen? ⟨o, 0, none⟩ = false) ∧ OutS w (w2.setCell ⟨o, 0, none⟩ (.slice (some ⟨g, 0, none⟩) (ws.length + 1) cap)) B o v (ws ++ [x]) ps bs) := by
    intro t t' w2 g cap hg hr hat
    have hk0 : Kept (fun _ => False) w (((w.alloc (.cells #[.int .i64 3, .int .i64 x.c, x.d] t)).drew).alloc (.cells #[.int .i64 3, .int .i64 x.c, x.d] t')) := (((Kept.refl _ w).alloc _).drew).alloc _
    obtain ⟨h1, h2, h3⟩ := h.growW hk0 hg hx hr (hat.imp id (fun e => by simp; omega))
    refine ⟨h1, _, h2, h3, fun k hk => ?_⟩
    rcases hk with hk | hk | hk | hk
    · exact .inl (.inl hk)
    · have : g = k := by simpa [Value.ownBlock] using hk
      subst this
      rcases hat with e | e
      · exact .inl (.inr (.inl e))
      · right; omega
    · exact .inl (.inr (.inr (.inl hk)))
    · exact .inl (.inr (.inr (.inr hk)))
  have c0 : ∀ o1, (w.alloc o1).cell? ⟨o, 0, none⟩ = some v.w := fun o1 => by rw [blk_cell ((h.below (alloc_below w o1)).blk)]; rfl
  have c0' : ∀ o1, (w.alloc o1).drew.cell? ⟨o, 0, none⟩ = some v.w := c0
  have HO := Lib.hid h.rw_
  obtain ⟨y0, hy0⟩ : ∃ y, y = x.c := ⟨_, rfl⟩
  have hwcs : wcs x = [.int .i64 3, .int .i64 y0, .slice A dn dc] := by rw [hy0, wcs, hd]
  rw [hwcs, hd, ← hy0] at HS
  rw [hd, ← hy0]
  clear h hx hd hy0 hwcs
  generalize v.w = vw at *
  generalize ws.length = L at *
  generalize csW ws = xs at *
  go_enter Tryd.func62, Tryd.ntmps62
  go_wp2
  go_region_law (refine step_append_lies _ rfl (.tmp 8) (.tmp 10) 24 rfl B 54 i0 (.agg #[.int .i64 0, .int .i64 0, .slice none 0 0]) 3 40 Tryd.underlying24 hi hz0 hz1 hz2 rfl (by decide) vw L xs (by simp [Act.eval]) (((HO.out.alloc _).drew).alloc _) ⟨w.heap.size + 1, 0, none⟩ 1 1 [.int .i64 3, .int .i64 y0, .slice A dn dc] (by simp [Act.eval]) rfl (recc _ _ _ _ (by simp)) (by intro u hu; simp at hu; rcases hu with rfl | rfl | rfl <;> rfl) (by decide) (by unfold maxLen; omega) (by omega) (by simp; omega) (w.heap.size + 1 + 1) (by simp) ?_; intro g2 cap2 w2 ho2 hg2 hat2 _; obtain ⟨⟨hq1, hq2⟩, hq3⟩ := HS.out _ _ _ _ _ hg2 ho2 hat2)
  all_goals
    have HQ := Lib.hid hq3
    clear hq3 hg2 ho2 hat2 c0 c0'
    go_wp2
    go_end0
    exact ⟨rfl, HQ.out⟩

theorem OutS.trans {w w1 w2 : World} {v1 : OV} {ws1 : List We} {ps1 : List Pe} {bs1 : List Nat} {ws2 : List We} {ps2 : List Pe} {bs2 : List Nat} (h1 : OutAt w1 B o v1 ws1 ps1 bs1 ∧ Kept (OfO o v) w w1 ∧ ∀ k, OfO o v1 k → OfO o v k ∨ w.heap.size ≤ k) (h2 : OutS w1 w2 B o v1 ws2 ps2 bs2) : OutS w w2 B o v ws2 ps2 bs2 := by
  obtain ⟨v2, h3, h4, h5⟩ := h2
  refine ⟨v2, h3, h1.2.1.trans h4 (fun i hi hk => ?_), fun k hk => ?_⟩
  · rcases h1.2.2 i hk with e | e
    · exact e
    · omega
  · rcases h5 k hk with e | e
    · exact h1.2.2 k e
    · right; have := h1.2.1.size; omega
theorem own_slice {w : World} {B : Nat} {e : TypeId} {n m : Nat} {u : Value} {xs : List Value} (h : w.ownsRow B e n u m xs) : ∃ A c, u = .slice A m c := by
  rcases h.2 with ⟨rfl, rfl⟩ | ⟨g, cap, cur, rfl, _⟩
  · exact ⟨_, _, rfl⟩
  · exact ⟨_, _, rfl⟩
theorem post10 (w : World) (a b c d e f g h i j : Value) {t : TypeId} {B : Nat} (hB : B = w.heap.size) : ∀ q u, [a, b, c, d, e, f, g, h, i, j][q]? = some u → (w.alloc (.cells #[a, b, c, d, e, f, g, h, i, j] t)).cell? ((⟨B, 0, none⟩ : Addr).add q) = some u := by
  subst hB
  exact World.news_of_block (heap_alloc_new w _)
theorem one1 (w : World) (a : Value) {t : TypeId} {B : Nat} (hB : B = w.heap.size) : ∀ q u, [a][q]? = some u → (w.alloc (.cells #[a] t)).cell? ((⟨B, 0, none⟩ : Addr).add q) = some u := by
  subst hB
  exact World.news_of_block (heap_alloc_new w _)
set_option maxHeartbeats 1000000 in
theorem post_any (h : OutAt w B o v ws ps bs) (hB : B ≤ w.heap.size) (x : Pe) (hp : ps.length ≤ 1000000) (hb : bs.length ≤ 1000000) :
    Calls Tryd.prog 60 #[.pointer (some ⟨o, 0, none⟩), .int .i64 x.t, mgv x.m.k x.m.c x.m.g x.m.s x.m.p x.m.o] w fun e w' => e = .returned (.tuple #[]) ∧ OutS w w' B o v ws (ps ++ [x]) (bs ++ [ws.length]) := by
  obtain ⟨i0, hi, hz0, hz1, hz2⟩ := info_parts Tryd.infoPost
  obtain ⟨i1, hi', hz0', hz1', hz2'⟩ := info_parts Tryd.infoInt
  have hlt := blk_lt h.blk
  obtain ⟨Aw, Cw, hvw⟩ := own_slice h.rw_
  obtain ⟨⟨xt, ⟨m0, m1, m2, m3, m4, m7⟩⟩, hx⟩ : ∃ y, y = x := ⟨_, rfl⟩
  subst hx
  dsimp only
  -- the second row
  have HS2 : Hid (∀ (W : World) (v1 : OV), v1.w = v.w → v1.b = v.b → OutAt W B o v1 ws (ps ++ [⟨xt, ⟨m0, m1, m2, m3, m4, m7⟩⟩]) bs → Kept (OfO o v) w W → (∀ k, OfO o v1 k → OfO o v k ∨ w.heap.size ≤ k) → B ≤ W.heap.size ∧ o < W.heap.size ∧ W.cell? ⟨o, 0, none⟩ = some (.slice Aw ws.length Cw) ∧ W.cell? ⟨o, 2, none⟩ = some v.b ∧ W.ownsRow B 3 1 v.b bs.length (csB bs) ∧
      ∀ t' w2 g cap, ((W.drew).alloc (.cells #[bcs ws.length] t')).grownBy w2 v.b.ownBlock → w2.ownsRow B 3 1 (.slice (some ⟨g, 0, none⟩) (bs.length + 1) cap) (bs.length + 1) (csB bs ++ [bcs ws.length]) → (v.b.ownBlock = some g ∨ g = W.heap.size + 1) →
      (w2.cell? ⟨o, 2, none⟩ = some v.b ∧ w2.frozen? ⟨o, 2, none⟩ = false) ∧ OutS w (w2.setCell ⟨o, 2, none⟩ (.slice (some ⟨g, 0, none⟩) (bs.length + 1) cap)) B o v ws (ps ++ [⟨xt, ⟨m0, m1, m2, m3, m4, m7⟩⟩]) (bs ++ [ws.length])) := by
    intro W v1 e1 e2 h1 hk ho
    refine ⟨Nat.le_trans hB hk.size, blk_lt h1.blk, by rw [blk_cell h1.blk, ← hvw, ← e1]; rfl, by rw [blk_cell h1.blk, ← e2]; rfl, by rw [← e2]; exact h1.rb, ?_⟩
    intro t' w2 g cap hg hr hat
    have hk0 : Kept (fun _ => False) W ((W.drew).alloc (.cells #[bcs ws.length] t')) := ((Kept.refl _ W).drew).alloc _
    rw [← e2] at hg hat
    obtain ⟨q1, q2, q3⟩ := h1.growB hk0 hg hr (hat.imp id (fun e => by simp; omega))
    rw [e2] at q1
    refine ⟨q1, OutS.trans ⟨h1, hk, ho⟩ ⟨_, q2, q3, fun k hk => ?_⟩⟩
    rcases hk with hk | hk | hk | hk
    · exact .inl (.inl hk)
    · exact .inl (.inr (.inl hk))
    · exact .inl (.inr (.inr (.inl hk)))
    · have : g = k := by simpa [Value.ownBlock] using hk
      subst this
      rcases hat with e | e
      · exact .inl (.inr (.inr (.inr e)))
      · right; omega
  have HS : Hid (∀ t t' w2 g cap, (((w.alloc (.cells #[.int .i64 m0, .int .i64 m1, .int .u32 m2, .int .u64 m3, .int .i64 m4, .int .i64 0, .int .i64 0, .int .i64 m7, .slice none 0 0] t)).drew).alloc (.cells #[.int .i64 xt, .int .i64 m0, .int .i64 m1, .int .u32 m2, .int .u64 m3, .int .i64 m4, .int .i64 0, .int .i64 0, .int .i64 m7, .slice none 0 0] t')).grownBy w2 v.p.ownBlock →
      w2.ownsRow B 63 10 (.slice (some ⟨g, 0, none⟩) (ps.length + 1) cap) (ps.length + 1) (csP ps ++ [.int .i64 xt, .int .i64 m0, .int .i64 m1, .int .u32 m2, .int .u64 m3, .int .i64 m4, .int .i64 0, .int .i64 0, .int .i64 m7, .slice none 0 0]) → (v.p.ownBlock = some g ∨ g = w.heap.size + 1 + 1) →
      (w2.cell? ⟨o, 1, none⟩ = some v.p ∧ w2.frozen? ⟨o, 1, none⟩ = false) ∧ ∃ v1 : OV, v1.w = v.w ∧ v1.b = v.b ∧ OutAt (w2.setCell ⟨o, 1, none⟩ (.slice (some ⟨g, 0, none⟩) (ps.length + 1) cap)) B o v1 ws (ps ++ [⟨xt, ⟨m0, m1, m2, m3, m4, m7⟩⟩]) bs ∧ Kept (OfO o v) w (w2.setCell ⟨o, 1, none⟩ (.slice (some ⟨g, 0, none⟩) (ps.length + 1) cap)) ∧ ∀ k, OfO o v1 k → OfO o v k ∨ w.heap.size ≤ k) := by
    intro t t' w2 g cap hg hr hat
    have hk0 : Kept (fun _ => False) w (((w.alloc (.cells #[.int .i64 m0, .int .i64 m1, .int .u32 m2, .int .u64 m3, .int .i64 m4, .int .i64 0, .int .i64 0, .int .i64 m7, .slice none 0 0] t)).drew).alloc (.cells #[.int .i64 xt, .int .i64 m0, .int .i64 m1, .int .u32 m2, .int .u64 m3, .int .i64 m4, .int .i64 0, .int .i64 0, .int .i64 m7, .slice none 0 0] t')) := (((Kept.refl _ w).alloc _).drew).alloc _
    obtain ⟨h1, h2, h3⟩ := h.growP hk0 hg (x := ⟨xt, ⟨m0, m1, m2, m3, m4, m7⟩⟩) hr (hat.imp id (fun e => by simp; omega))
    refine ⟨h1, _, ?_, ?_, h2, h3, fun k hk => ?_⟩
    · rfl
    · rfl
    rcases hk with hk | hk | hk | hk
    · exact .inl (.inl hk)
    · exact .inl (.inr (.inl hk))
    · have : g = k := by simpa [Value.ownBlock] using hk
      subst this
      rcases hat with e | e
      · exact .inl (.inr (.inr (.inl e)))
      · right; omega
    · exact .inl (.inr (.inr (.inr hk)))
  have c0 : ∀ o1, (w.alloc o1).cell? ⟨o, 1, none⟩ = some v.p := fun o1 => by rw [blk_cell ((h.below (alloc_below w o1)).blk)]; rfl
  have c0' : ∀ o1, (w.alloc o1).drew.cell? ⟨o, 1, none⟩ = some v.p := c0
  have HO := Lib.hid h.rp
  clear h hvw
  generalize hvb : v.b = vb at *
  generalize hvp : v.p = vp at *
  generalize hvw : v.w = vw at *
  generalize hL : ws.length = L at *
  generalize hN : ps.length = N at *
  generalize hM : bs.length = M at *
  generalize csP ps = xs at *
  generalize csB bs = ys at *
  go_enter Tryd.func60, Tryd.ntmps60
  go_wp2
  go_region_law (refine step_append_lies _ rfl (.tmp 10) (.tmp 14) 45 rfl B 63 i0 (.agg #[.int .i64 0, .int .i64 0, .int .i64 0, .int .u32 0, .int .u64 0, .int .i64 0, .int .i64 0, .int .i64 0, .int .i64 0, .slice none 0 0]) 10 96 Tryd.underlying45 hi hz0 hz1 hz2 rfl (by decide) vp N xs (by simp [Act.eval]) (((HO.out.alloc _).drew).alloc _) ⟨w.heap.size + 1, 0, none⟩ 1 1 [.int .i64 xt, .int .i64 m0, .int .i64 m1, .int .u32 m2, .int .u64 m3, .int .i64 m4, .int .i64 0, .int .i64 0, .int .i64 m7, .slice none 0 0] (by simp [Act.eval]) rfl (post10 _ _ _ _ _ _ _ _ _ _ _ (by simp)) (by intro u hu; simp at hu; rcases hu with rfl | rfl | rfl | rfl | rfl | rfl | rfl | rfl | rfl <;> rfl) (by decide) (by unfold maxLen; omega) (by omega) (by simp; omega) (w.heap.size + 1 + 1) (by simp) ?_; intro g2 cap2 w2 ho2 hg2 hat2 _; obtain ⟨⟨hq1, hq2⟩, v1, ew, eb, hq3, hq4, hq5⟩ := HS.out _ _ _ _ _ hg2 ho2 hat2)
  all_goals
    obtain ⟨r1, r2, r3, r4, r5, r6⟩ := HS2.out _ v1 ew eb hq3 hq4 hq5
    have HR5 := Lib.hid r5
    have HR6 := Lib.hid r6
    clear hq3 hq4 hq5 hg2 ho2 hat2 c0 c0' r5 r6
    generalize w2.setCell ⟨o, 1, none⟩ (.slice (some ⟨g2, 0, none⟩) (N + 1) cap2) = W at *
    have r3' : W.drew.cell? ⟨o, 0, none⟩ = _ := r3
    have r4' : W.drew.cell? ⟨o, 2, none⟩ = _ := r4
    go_wp2
    go_region_law (refine step_append_lies _ rfl (.tmp 22) (.tmp 28) 46 rfl B 3 i1 (.int .i64 0) 1 8 Tryd.underlying46 hi' hz0' hz1' hz2' rfl (by decide) vb M ys (by simp [Act.eval]) ((HR5.out.drew).alloc _) ⟨W.heap.size, 0, none⟩ 1 1 [bcs L] (by simp [Act.eval]) rfl (one1 _ _ (by simp)) (by intro u hu; simp at hu; subst hu; rfl) (by decide) (by unfold maxLen; omega) (by omega) (by simp; omega) (W.heap.size + 1) (by simp) ?_; intro g3 cap3 w3 ho3 hg3 hat3 _; obtain ⟨⟨hq1, hq2⟩, hq3⟩ := HR6.out _ _ _ _ hg3 ho3 hat3)
    all_goals
      have HQ := Lib.hid hq3
      clear hq3 hg3 ho3 hat3
      go_wp2
      go_end0
      exact ⟨rfl, HQ.out⟩
end
end Go.Proofs.YtlmbbnkdiokabaaDoor
