/-
  Reach.
-/
import Derived.Test.YtlcadkhhpnaofaaGSort
import Derived.Test.YtlcadkhhpnaofaaGW10
namespace Go.Proofs.Ytlcadkhhpnaofaa
set_option maxRecDepth 100000
open Go Go.RowKit Gq
attribute [local go_sem] Oper.semAt_some

/-- An append, and where the new slice lies, in a walk within a fence. -/
theorem listIn_append_lies {F : Fence} {n : Nat} {P : Program} (w : World) {ops : Array Oper} {rest : List Oper} {o : Oper} {a : Act} {Q : Exit → Act → World → Prop}
    (hg : o.guard = none) (s x : Operand) (t : TypeId) (hop : o.op = Op.call { callee := Callee.builtin Builtin.append, args := #[s, x], argTypes := #[t, t] })
    (base : Nat) (e : TypeId) (i : TypeInfo) (z : Value) (size bytes : Nat) (h1 : P.underlying t = some (.slice e)) (h2 : P.info? e = some i) (h3 : i.zero = some z) (h4 : i.size = size) (h5 : i.bytes = bytes) (h6 : z.cells.size = size) (h7 : 0 < size)
    (v : Value) (k : Nat) (xs : List Value) (hs : a.eval s = v) (hown : w.ownsRow base e size v k xs) (ad : Addr) (m c : Nat) (news : List Value) (hx : a.eval x = .slice (some ad) m c) (hn : news.length = m * size)
    (hc : ∀ j u, news[j]? = some u → w.cell? (ad.add j) = some u) (h1c : ∀ u ∈ news, u.oneCell' = true) (hm : 0 < m) (b1 : k + m ≤ maxLen) (b2 : (k + m) * bytes ≤ 140737488355328) (b3 : base ≤ w.heap.size) (H : Nat) (hH : w.heap.size = H)
    (hK : ∀ g cap w', w'.ownsRow base e size (.slice (some ⟨g, 0, none⟩) (k + m) cap) (k + m) (xs ++ news) → w.grownBy w' v.ownBlock → (v.ownBlock = some g ∨ g = H) → g < w'.heap.size → wpListIn F n P ops Q rest (a.put o.dst (.slice (some ⟨g, 0, none⟩) (k + m) cap)) w') :
    wpListIn F n P ops Q (o :: rest) a w := by
  refine wpListIn_plain hg fun K hK' => ?_
  obtain ⟨g, cap, w', hrun, r1, r2, r3, r4⟩ := run_append_lies (P := P) w t o.type base e i z size bytes h1 h2 h3 h4 h5 h6 h7 v k xs hown ad m c news hn hc h1c hm b1 b2 b3 H hH
  refine ⟨by simp [Oper.about, hop, resolve, Target.leads, Sem.run_pure], ?_⟩
  rw [Oper.semAt_plain F _ _ (by rw [hop]; intro c hc'; cases hc')]
  simp [execOp, hop, resolve, invoke, builtin, hs, hx, hrun, Result.andThen]
  exact hK' _ _ (hK g cap w' r1 r2 r3 r4)

def fsts (l : List (Nat × Nat)) : List Nat := l.map (·.1)
theorem fsts_snoc (l : List (Nat × Nat)) (x : Nat × Nat) : fsts (l ++ [x]) = fsts l ++ [x.1] := by simp [fsts]

structure ReachI (w : World) (nb p : Nat) (G : Nat → Prop) (pre : List (Nat × Nat)) (W : World) : Prop where
  v : ∃ v, W.heap[p]? = some (.cells #[v] 34 (0, 0)) ∧ RowAt W v (fsts pre) ∧ ∀ k, v.ownBlock = some k → ¬ G k ∧ nb ≤ k
  gv : ¬ G p
  b : Below w.heap.size w W
  g : ∀ k, G k → w.heap.size ≤ k ∧ k < W.heap.size
theorem RowAt.own {A B : World} {base : Nat} {row : Option Nat} {v : Value} {l : List Nat} (hg : A.grownBy B row) (hr : ∀ r, row = some r → base ≤ r ∧ ∃ o : Obj, A.heap[r]? = some o ∧ o.isCells = false) (h : RowAt A v l) : RowAt B v l := by
  refine ⟨h.1, ?_⟩
  rcases h.2 with hn | ⟨g, cap, cur, rfl, hb, hgg, rest⟩
  · exact .inl hn
  · exact .inr ⟨g, cap, cur, rfl, hb, blk_own hg hr hgg, rest⟩
theorem ReachI.own {w : World} {nb p base : Nat} (hb : w.heap.size ≤ base) (G : Nat → Prop) : OwnFrom base (ReachI w nb p G) := by
  rintro s A B row ⟨⟨v, h1, h2, h3⟩, h4, h5, h6⟩ hg hr
  exact ⟨⟨v, blk_own hg hr h1, h2.own hg hr, h3⟩, h4, below_own hg hr h5 h5.size hb, fun k hk => ⟨(h6 k hk).1, Nat.lt_of_lt_of_le (h6 k hk).2 hg.size⟩⟩
theorem ReachI.stp {w : World} {nb p : Nat} {G G' : Nat → Prop} {pre : List (Nat × Nat)} {A B : World} (h : ReachI w nb p G pre A) (hs : Stp G G' A B) : ReachI w nb p G' pre B := by
  obtain ⟨⟨v, h1, h2, h3⟩, h4, h5, h6⟩ := h
  have hbl := below_stp hs h5 h5.size (fun k hk => (h6 k hk).1)
  refine ⟨⟨v, (blk_stp hs (blk_lt h1) h4).1.trans h1, h2.blocks (fun g hg => (blk_stp hs (h2.lt hg) (h3 g hg).1).1), fun k hk => ⟨(blk_stp hs (h2.lt hk) (h3 k hk).1).2, (h3 k hk).2⟩⟩, (blk_stp hs (blk_lt h1) h4).2, hbl.1, fun k hk => ⟨hbl.2 k hk, ?_⟩⟩
  rcases hs.2 k hk with h | h
  · exact Nat.lt_of_lt_of_le (h6 k h).2 hs.1.size
  · exact h.2

/-- One round's append. -/
theorem ReachI.round {w W W2 : World} {nb p g2 cap2 : Nat} {X G : Nat → Prop} {pre : List (Nat × Nat)} {x : Nat × Nat} {v : Value} {o : Obj} (h : ReachI w nb p G pre W) (hp : p < nb) (hw : w.heap.size ≤ p) (hX : ∀ k, X k → k < nb ∧ k ≠ p) (hnb : nb ≤ W.heap.size) (hv : W.heap[p]? = some (.cells #[v] 34 (0, 0)))
    (ho : W2.ownsRow 0 3 1 (.slice (some ⟨g2, 0, none⟩) ((fsts pre).length + 1) cap2) ((fsts pre).length + 1) (nis (fsts pre) ++ [.int .i64 (x.1 : Int)])) (hgr : (W.alloc o).grownBy W2 v.ownBlock) (hat : v.ownBlock = some g2 ∨ g2 = W.heap.size + 1) :
    W2.cell? ⟨p, 0, none⟩ = some v ∧ W2.frozen? ⟨p, 0, none⟩ = false ∧ roundEnd nb X G (ReachI w nb p) (pre ++ [x]) W .normal { tmps := #[], defers := [] } (W2.setCell ⟨p, 0, none⟩ (.slice (some ⟨g2, 0, none⟩) ((fsts pre).length + 1) cap2)) := by
  obtain ⟨⟨v', h1, h2, h3⟩, h4, h5, h6⟩ := h
  have e : v' = v := by
    rw [hv] at h1
    injection h1 with h1
    injection h1 with h1
    have := congrArg (fun a : Array Value => a[0]?) h1
    simpa using this.symm
  subst e
  have hk1 : Kept (fun k => v'.ownBlock = some k) W W2 := ((Kept.refl _ W).alloc o).trans ((Kept.refl (fun k => v'.ownBlock = some k) (W.alloc o)).grown hgr (fun k h => .inl h)) (fun _ _ h => h)
  have hnp : ¬ v'.ownBlock = some p := fun e => by have := (h3 p e).2; omega
  have hp2 : W2.heap[p]? = some (.cells #[v'] 34 (0, 0)) := (hk1.block _ (blk_lt hv) hnp).trans hv
  have hg2 : nb ≤ g2 ∧ ¬ G g2 := by
    rcases hat with h | h
    · exact ⟨(h3 _ h).2, (h3 _ h).1⟩
    · exact ⟨by omega, fun hG => by have := (h6 _ hG).2; omega⟩
  have hk2 : Kept (fun k => k = p) W2 (W2.setCell ⟨p, 0, none⟩ (.slice (some ⟨g2, 0, none⟩) ((fsts pre).length + 1) cap2)) := (Kept.refl (fun k => k = p) W2).setCell (p := ⟨p, 0, none⟩) (.inl rfl) _
  have hkk : Kept (fun k => v'.ownBlock = some k ∨ k = p) W (W2.setCell ⟨p, 0, none⟩ (.slice (some ⟨g2, 0, none⟩) ((fsts pre).length + 1) cap2)) := (hk1.mono (fun _ _ h => .inl h)).trans hk2 (fun _ _ h => .inr h)
  refine ⟨by rw [blk_cell hp2]; rfl, blk_free hp2 0, ⟨hkk.size, fun k o' _ hk hc => ?_⟩, KeepB.of_kept hkk ?_, ⟨.slice (some ⟨g2, 0, none⟩) ((fsts pre).length + 1) cap2, ?_, ?_, fun k hk => ?_⟩, h4, h5.trans (hkk.below (by rintro k (h | rfl); exact Nat.le_trans (by omega) (h3 k h).2; exact hw) h5.size), fun k hk => ⟨(h6 k hk).1, Nat.lt_of_lt_of_le (h6 k hk).2 hkk.size⟩⟩
  · refine (hkk.block k (blk_lt hk) ?_).trans hk
    rintro (h | rfl)
    · obtain ⟨g, cap, rfl, _, _⟩ : ∃ g cap, v' = .slice (some ⟨g, 0, none⟩) (fsts pre).length cap ∧ True ∧ True := by
        rcases h2.2 with ⟨rfl, _⟩ | ⟨g, cap, _, rfl, _⟩
        · simp [Value.ownBlock] at h
        · exact ⟨g, cap, rfl, trivial, trivial⟩
      rcases h2.2 with ⟨h0, _⟩ | ⟨g', cap', cur, e', _, hb, _⟩
      · cases h0
      · cases e'
        have h : some g = some k := h
        obtain rfl : g = k := by simpa using h
        rw [hk] at hb
        cases hb
        cases hc
    · rw [hv] at hk
      cases hk
      cases hc
  · rintro k hxg _ (h | rfl)
    · rcases hxg with hx | hx
      · have := (hX k hx).1; have := (h3 k h).2; omega
      · exact (h3 k h).1 hx
    · rcases hxg with hx | hx
      · exact (hX k hx).2 rfl
      · exact h4 hx
  · have := heap_setCell_same W2 p 0 #[v'] 34 (.slice (some ⟨g2, 0, none⟩) ((fsts pre).length + 1) cap2) hp2
    simpa using this
  · have : RowAt W2 (.slice (some ⟨g2, 0, none⟩) ((fsts pre).length + 1) cap2) (fsts (pre ++ [x])) := by
      show World.ownsRow _ _ _ _ _ _ _
      rw [fsts_snoc, nis_append, List.length_append]
      exact ho
    exact this.kept hk2 (fun g h e => by
      have h : some g2 = some g := h
      have : g2 = g := by simpa using h
      omega)
  · have hk : some g2 = some k := hk
    obtain rfl : g2 = k := by simpa using hk
    exact ⟨hg2.2, hg2.1⟩

/-- Behind Reach: the nodes that are told, rising. -/
def reachF (R : Gr) (a : Nat) : List Nat := srtN (fsts (tells R (List.replicate R.length false) a))

theorem told_length {R : Gr} (hO : Ok R) {a : Nat} (ha : a < R.length) {M0 : Mt} (hM : M0.length = R.length) (h : mtb M0 a = false) : (tells R M0 a).length ≤ R.length := by
  obtain ⟨far, hl⟩ := tells_lv hO ha hM h
  have h1 : ((tells R M0 a).map (·.1)).Nodup := by simpa using hl.nd
  have h2 : (tells R M0 a).map (·.1) ⊆ List.range R.length := fun x hx => List.mem_range.2 (hl.new x (List.mem_append.2 (.inl hx))).2
  have := h1.length_le_of_subset h2
  simpa using this

set_option maxHeartbeats 2000000 in
theorem reach_any {w : World} {b a : Nat} {R : Gr} {S : Nat → Prop} (h : GAt w b R S) (hO : Ok R) (ha : a < R.length) :
    Calls Try.prog 17 #[.pointer (some ⟨b, 0, none⟩), .int .i64 (a : Int)] w (NewR w (reachF R a)) := by
  obtain ⟨i0, hi, hz0, hz1, hz2⟩ := info_parts Try.infoInt
  have HH := Lib.hid (has_any h (a : Int))
  have hnode : isNode R.length (a : Int) = true := by simp [isNode, ha]
  rw [hnode] at HH
  have hn := hO.size
  have hmk := makeBools_run R.length (by omega)
  have HG := Lib.hid h
  have HOk := Lib.hid hO
  have HL : Hid (∀ W, Below w.heap.size w W → Calls Try.prog 18 #[.pointer (some ⟨b, 0, none⟩)] W fun e w' => e = .returned (.int .i64 (R.length : Int)) ∧ w' = W) := fun W hb => len_any (h.below hb (Nat.le_refl _))
  have HB0 : Hid (∀ o, Below w.heap.size w (w.alloc o)) := fun o => (Below.refl _ w).alloc (Nat.le_refl _) _
  have hSl : ∀ k, S k → k < w.heap.size := h.lt
  have hlen : (tells R (List.replicate R.length false) a).length ≤ 1024 := by have := told_length hO ha (M0 := List.replicate R.length false) (by simp) (mt_none _ _); omega
  have HS : Hid (∀ W0, W0 = ((((w.alloc (.cells #[.slice none 0 0] 34)).alloc (.cells (madeCells #[.bool false] R.length) 4)).alloc (.cells #[.pointer (some ⟨b, 0, none⟩)] 23)).alloc (.cells #[.int .i64 (a : Int)] 3)).alloc (.cells #[.slice (some ⟨w.heap.size + 1, 0, none⟩) R.length R.length] 53) →
      ReachI w (w.heap.size + 5) w.heap.size (fun k => k = w.heap.size + 1) [] W0 ∧ GAt W0 b R S ∧ W0.heap[w.heap.size + 1]? = some (.cells (bs (List.replicate R.length false)) 4 (0, 0)) ∧
      W0.cell? ⟨w.heap.size + 4, 0, none⟩ = some (.slice (some ⟨w.heap.size + 1, 0, none⟩) R.length R.length) ∧ W0.cell? ⟨w.heap.size + 3, 0, none⟩ = some (.int .i64 (a : Int)) ∧ W0.cell? ⟨w.heap.size + 2, 0, none⟩ = some (.pointer (some ⟨b, 0, none⟩)) ∧ W0.heap.size = w.heap.size + 5) := by
    rintro W0 rfl
    have al : ∀ (A : World) (o : Obj) (k : Nat) {x : Obj}, A.heap[k]? = some x → (A.alloc o).heap[k]? = some x := fun A o k {x} hx => (Below.heap_alloc A o k (blk_lt hx)).trans hx
    have nw : ∀ (A : World) (o : Obj) (k : Nat), k = A.heap.size → (A.alloc o).heap[k]? = some o := fun A o k e => by rw [e]; exact heap_alloc_new A o
    refine ⟨⟨⟨.slice none 0 0, ?_, RowAt.nil _, fun k hk => by simp [Value.ownBlock] at hk⟩, ?_, ?_, ?_⟩, ?_, ?_, ?_, ?_, ?_, ?_⟩
    · exact al _ _ _ (al _ _ _ (al _ _ _ (al _ _ _ (nw _ _ _ rfl))))
    · show ¬ w.heap.size = _; omega
    · exact (((((Below.refl _ w).alloc (Nat.le_refl _) _).alloc (by simp) _).alloc (by simp; omega) _).alloc (by simp; omega) _).alloc (by simp; omega) _
    · rintro k rfl; simp
    · exact ((((h.alloc _).alloc _).alloc _).alloc _).alloc _
    · rw [← bs_made]
      exact al _ _ _ (al _ _ _ (al _ _ _ (nw _ _ _ (by simp))))
    · rw [blk_cell (nw _ _ _ (by simp))]; rfl
    · rw [blk_cell (al _ _ _ (nw _ _ _ (by simp)))]; rfl
    · rw [blk_cell (al _ _ _ (al _ _ _ (nw _ _ _ (by simp))))]; rfl
    · simp
  clear hnode h hO
  obtain ⟨n, hnR⟩ : ∃ n, n = R.length := ⟨_, rfl⟩
  rw [← hnR] at ha hn hmk HL
  have HN := Lib.hid hnR
  clear hnR
  refine (callsIn_wide (n := 9)).1 ?_
  refine callsIn_of_wp_marks Try.func17 rfl trivial ?_ rfl
  simp only [Try.ntmps17, List.size_toArray, List.length_cons, List.length_nil, Nat.reduceAdd, Nat.reduceSub, Array.replicate_succ, Array.replicate_zero, List.push_toArray, List.append_toArray, List.nil_append, List.cons_append]
  gi_wp2_with fail
  refine ⟨trivial, (callsIn_wide.2 HH.out).mono ?_⟩
  rintro e w' ⟨rfl, hw⟩
  obtain rfl := hw.symm
  gi_wp2_with fail
  refine ⟨trivial, (callsIn_wide.2 (HL.out _ (HB0.out _))).mono ?_⟩
  rintro e w' ⟨rfl, hw⟩
  obtain rfl := hw.symm
  gi_wp2_with fail
  refine ⟨trivial, (callsIn_wide.2 (gsearch_any _ _ _ _ _ _)).mono ?_⟩
  rintro e w' ⟨rfl, hw⟩
  obtain rfl := hw.symm
  gi_wp2_with fail
  obtain ⟨W0, hW0⟩ : ∃ W0, W0 = ((((w.alloc (.cells #[.slice none 0 0] 34)).alloc (.cells (madeCells #[.bool false] n) 4)).alloc (.cells #[.pointer (some ⟨b, 0, none⟩)] 23)).alloc (.cells #[.int .i64 (a : Int)] 3)).alloc (.cells #[.slice (some ⟨w.heap.size + 1, 0, none⟩) n n] 53) := ⟨_, rfl⟩
  rw [← hW0]
  obtain ⟨hI0, hg0, hm0, c1, c2, c3, hz⟩ := HS.out W0 (by rw [← HN.out]; exact hW0)
  clear hW0 HS HL HB0 hmk HH
  have hX : ∀ k, (S k ∨ k = w.heap.size + 4 ∨ k = w.heap.size + 3 ∨ k = w.heap.size + 2) → k < w.heap.size + 5 ∧ k ≠ w.heap.size := by
    rintro k (h | h | h | h)
    · have := hSl _ h; omega
    · omega
    · omega
    · omega
  have HX := Lib.hid hX
  refine range_wide (by omega) (gf := 44) (lb := #[.pointer (some ⟨w.heap.size + 4, 0, none⟩), .pointer (some ⟨w.heap.size + 3, 0, none⟩), .pointer (some ⟨w.heap.size + 2, 0, none⟩)]) rfl (enters_of Try.func44 (by kernel_rfl) rfl)
    (encs := fun x : Nat × Nat => #[.int .i64 (x.1 : Int), .int .i64 (x.2 : Int)]) (fun _ => rfl)
    (search_tells (9 - 1) (by omega) hg0 HOk.out (by rw [← HN.out]; exact ha) (by simp) hm0 c1 c2 c3 (by
      rintro (h | h | h | h)
      · have := hSl _ h; omega
      · omega
      · omega
      · omega)) (Below.refl _ _)
    (fun k hk => by have := (hX k hk).1; omega) (by rintro k rfl; omega)
    (ReachI w (w.heap.size + 5) w.heap.size) (fun G => ReachI.own (by omega) G) (fun _ _ _ _ _ h hs => h.stp hs) ?hS hI0
    (fun x a' _ => a' = { tmps := #[.pointer (some ⟨b, 0, none⟩), .int .i64 (a : Int), undef, undef, .slice none 0 0, .pointer (some ⟨w.heap.size, 0, none⟩), .int .i64 (x.1 : Int), .pointer (some ⟨b, 0, none⟩), .int .i64 (a : Int), .bool true, .bool false, .pointer (some ⟨b, 0, none⟩), .int .i64 (a : Int), .pointer (some ⟨b, 0, none⟩), .int .i64 (n : Int), .slice (some ⟨w.heap.size + 1, 0, none⟩) n n,
      .func (.func 44) #[] #[.pointer (some ⟨w.heap.size + 1 + 1 + 2, 0, none⟩), .pointer (some ⟨w.heap.size + 1 + 1 + 1, 0, none⟩), .pointer (some ⟨w.heap.size + 1 + 1, 0, none⟩)], .int .i64 (x.1 : Int), .int .i64 (x.2 : Int), undef, undef, undef, undef, undef, undef, undef], defers := [] })
    ?hAx ?assign ?body ?done
  case hS =>
    intro G _ A B row h hg hr
    exact blk_own hg hr h
  case hAx => exact fun _ _ _ _ _ _ h _ _ => h
  case assign =>
    intro l G pre x W K hI hK
    gi_wp2
    exact hK _ _ (KeepsFrom.refl _ _) (KeepB.refl _ _) hI rfl
  case body =>
    rintro l G pre x a' W hl _ hI rfl hpre
    have hl2 : (fsts pre).length ≤ 1024 := by
      have := hpre.length_le
      simp [fsts] at this ⊢
      omega
    obtain ⟨v, h1, h2, h3⟩ := hI.v
    have c5 : W.cell? ⟨w.heap.size, 0, none⟩ = some v := by rw [blk_cell h1]; rfl
    have HI := Lib.hid hI
    have HV := Lib.hid h1
    have hnbW : w.heap.size + 5 ≤ W.heap.size := by
      obtain ⟨r, hr⟩ := ‹∃ r, W.heap[l]? = some (.loop r)›
      have := blk_lt hr
      omega
    have HO : Hid (World.ownsRow W 0 3 1 v (fsts pre).length (nis (fsts pre))) := h2
    obtain ⟨x1, x2⟩ := x
    have HQ : Hid (∀ g2 cap2 W2 o, W2.ownsRow 0 3 1 (.slice (some ⟨g2, 0, none⟩) ((fsts pre).length + 1) cap2) ((fsts pre).length + 1) (nis (fsts pre) ++ [.int .i64 (x1 : Int)]) → (W.alloc o).grownBy W2 v.ownBlock → (v.ownBlock = some g2 ∨ g2 = W.heap.size + 1) →
        W2.cell? ⟨w.heap.size, 0, none⟩ = some v ∧ W2.frozen? ⟨w.heap.size, 0, none⟩ = false ∧ roundEnd W0.heap.size (fun k => S k ∨ k = w.heap.size + 4 ∨ k = w.heap.size + 3 ∨ k = w.heap.size + 2) G (ReachI w (w.heap.size + 5) w.heap.size) (pre ++ [(x1, x2)]) W .normal { tmps := #[], defers := [] } (W2.setCell ⟨w.heap.size, 0, none⟩ (.slice (some ⟨g2, 0, none⟩) ((fsts pre).length + 1) cap2))) := by
      intro g2 cap2 W2 o q1 q2 q3
      rw [hz]
      exact HI.out.round (x := (x1, x2)) (by omega) (Nat.le_refl _) HX.out hnbW HV.out q1 q2 q3
    have hnew := World.news_of_block (heap_alloc_new W (.cells #[.int .i64 (x1 : Int)] 3))
    have HNEW : Hid (∀ j x, [Value.int .i64 (x1 : Int)][j]? = some x → (W.alloc (.cells #[.int .i64 (x1 : Int)] 3)).cell? ((⟨W.heap.size, 0, none⟩ : Addr).add j) = some x) := by
      show ∀ j x, _
      simpa using hnew
    clear h1 h2 h3 hI hnew hpre hX hI0 hg0 hm0 c1 c2 c3
    generalize hr : (fsts pre).length = r at *
    clear hr
    generalize nis (fsts pre) = xs at *
    simp only at *
    gi_wp2_with (gi_at_builtin; refine listIn_append_lies _ rfl (.tmp 19) (.tmp 21) 34 rfl 0 3 i0 (.int .i64 0) 1 8 Try.underlying34 hi hz0 hz1 hz2 rfl (by decide) v r xs rfl (HO.out.alloc _) ⟨W.heap.size, 0, none⟩ 1 1 [.int .i64 (x1 : Int)] rfl rfl HNEW.out (by intro u hu; simp at hu; subst hu; rfl) (by decide) (by unfold maxLen; omega) (by omega) (Nat.zero_le _) (W.heap.size + 1) (by simp) ?_; intro g2 cap2 w2 ho2 hg2 hat2 hlt3; obtain ⟨hq1, hq2, hq3⟩ := HQ.out _ _ _ _ ho2 hg2 hat2; have HQ3 := Lib.hid hq3; clear hq3 ho2 hg2 hat2 hlt3 HQ)
    exact HQ3.out
  case done =>
    rintro D' G W hD' _ hI hK
    obtain ⟨v, h1, h2, h3⟩ := hI.v
    have c5 : W.cell? ⟨w.heap.size, 0, none⟩ = some v := by rw [blk_cell h1]; rfl
    have HC := Lib.hid (sort_any h2 (by unfold fsts; rw [List.length_map]; omega))
    have HQ : Hid (∀ W2, RowAt W2 v (reachF R a) → Kept (fun k => v.ownBlock = some k) W W2 → W2.cell? ⟨w.heap.size, 0, none⟩ = some v ∧ W2.heap[D']? = some (.deferred (some [])) ∧ NewR w (reachF R a) (.returned v) (W2.putObj D' (.deferred none))) := by
      intro W2 hr hk
      have hnp : ¬ v.ownBlock = some w.heap.size := fun e => by have := (h3 _ e).2; omega
      have hnD : ¬ v.ownBlock = some D' := fun e => by
        obtain ⟨g, cap, rfl⟩ : ∃ g cap, v = .slice (some ⟨g, 0, none⟩) (fsts (tells R (List.replicate R.length false) a)).length cap := by
          rcases h2.2 with ⟨rfl, _⟩ | ⟨g, cap, _, rfl, _⟩
          · simp [Value.ownBlock] at e
          · exact ⟨g, cap, rfl⟩
        rcases h2.2 with ⟨h0, _⟩ | ⟨g', cap', cur, e', _, hb, _⟩
        · cases h0
        · cases e'
          have e : some g = some D' := e
          obtain rfl : g = D' := by simpa using e
          rw [hK] at hb
          cases hb
      refine ⟨hk.cell (p := ⟨w.heap.size, 0, none⟩) c5 hnp, (hk.block _ (blk_lt hK) hnD).trans hK, v, rfl, hr.blocks (fun g hg => World.putObj_heap_other (fun e => hnD (by rw [hg, e]))), fun k hk => by have := (h3 k hk).2; omega, ?_⟩
      have h5 := hI.b.trans (hk.below (B := w.heap.size) (fun k hk => by have := (h3 k hk).2; omega) hI.b.size)
      have hkD : Kept (fun k => some D' = some k) W2 (W2.putObj D' (.deferred none)) := (Kept.refl (fun k => some D' = some k) W2).grown (grownBy_putObj' W2 D' (.deferred none)) (fun _ h => .inl h)
      refine h5.trans (hkD.below (fun k h => ?_) h5.size)
      have : D' = k := by simpa using h
      omega
    clear hI h1 h2 h3 hX hI0 hg0 hm0 c1 c2 c3
    gi_wp2_with fail
    refine ⟨trivial, (callsIn_wide.2 HC.out).mono ?_⟩
    rintro e W2 ⟨rfl, hr, hk⟩
    obtain ⟨q1, q2, q3⟩ := HQ.out W2 hr hk
    have HQ3 := Lib.hid q3
    clear hr hk q3 HQ HC
    gi_wp2
    refine ⟨by simp, .inl ⟨_, _, rfl, run_takeDeferred q2, ?_⟩⟩
    exact ⟨_, results_tmp (t := 4) rfl _ _ _, HQ3.out⟩
end Go.Proofs.Ytlcadkhhpnaofaa
