/-
  ClaimBack: lists of records that grow.
-/
import Derived.Test.YtijhkjegpcmjoaaClb1
namespace Go.Proofs.Ytijhkjegpcmjoaa
set_option maxRecDepth 100000
set_option linter.unusedSimpArgs false
open Go Go.RowKit Cl

theorem Try.infoRc3 : (Try.prog.info? 49).map (fun i => (i.zero, i.size, i.bytes)) = some (some (.agg #[.int .i64 0, .int .i64 0, .slice none 0 0]), 3, 40) := by kernel_rfl
/-- A record of a cell: its bytes in a block of their own. -/
def DD (s : List Cm) (V : World) (r : Rc) : Prop := D4 V (.slice r.A r.d.length r.cap) (genO s r.n) ∧ r.d = dOf s r.n
theorem D4.kept {w w' : World} {X : Nat → Prop} {v : Value} {o : Option Int} (h : D4 w v o) (hk : Kept X w w') (hX : ∀ k, X k → ∀ cs f, w.heap[k]? ≠ some (.cells cs 5 f)) : D4 w' v o := by
  cases o with
  | none => exact h
  | some g =>
    obtain ⟨k, e, h⟩ := h
    exact ⟨k, e, (hk.block k (blk_lt h) (fun hx => hX k hx _ _ h)).trans h⟩
theorem DD.kept {s : List Cm} {V V' : World} {X : Nat → Prop} {r : Rc} (h : DD s V r) (hk : Kept X V V') (hX : ∀ k, X k → ∀ cs f, V.heap[k]? ≠ some (.cells cs 5 f)) : DD s V' r := ⟨h.1.kept hk hX, h.2⟩
theorem DD.ok {s : List Cm} {V : World} {r : Rc} (hs : Ok s) (h : DD s V r) : DOk V r := by
  obtain ⟨h1, h2⟩ := h
  obtain ⟨k, n, d, A, cap⟩ := r
  simp only at h1 h2
  unfold dOf at h2
  unfold genO at h1 h2
  cases hh : has s n with
  | false =>
    rw [hh] at h1 h2
    simp only [Bool.false_eq_true, if_false] at h1 h2
    subst h2
    exact ⟨fun i hi => by simp at hi, fun i => by simp [List.getD]⟩
  | true =>
    rw [hh] at h1 h2
    simp only [if_true] at h1 h2
    have hg := hs.gen _ (at_mem hh)
    obtain ⟨k', e, hb⟩ := h1
    generalize (at_ s n).g = g at *
    subst h2
    injection e with e1 e2 e3
    subst e1
    refine DOk.block hb rfl (fun x hx => ?_)
    unfold by4 at hx
    simp only [List.mem_cons, List.not_mem_nil, or_false] at hx
    rcases hx with rfl | rfl | rfl | rfl <;> omega
theorem D4.sl {s : List Cm} {V : World} {d : Value} {c : Int} (h : D4 V d (genO s c)) : ∃ A cap, d = .slice A (dOf s c).length cap := by
  unfold dOf
  cases e : genO s c with
  | none => rw [e] at h; exact ⟨none, 0, h⟩
  | some g => rw [e] at h; obtain ⟨k, h, _⟩ := h; exact ⟨_, _, h⟩
/-- A list of records of a call's own. -/
structure RL (s : List Cm) (F : Nat) (C : List Int) (v : Value) (l : List Rc) (V : World) : Prop where
  rc : Recs s C l
  row : V.ownsRow F 49 3 v l.length (csR l)
  dat : ∀ r ∈ l, DD s V r
section
variable {s : List Cm} {F : Nat} {C : List Int} {v : Value} {l : List Rc} {V V' : World}
theorem RL.nil (s : List Cm) (F : Nat) (V : World) : RL s F [] (.slice none 0 0) [] V := ⟨⟨rfl, fun j hj => by simp at hj⟩, World.ownsRow_nil _ _ _ _, fun r hr => by cases hr⟩
theorem RL.kept {X : Nat → Prop} (h : RL s F C v l V) (hk : Kept X V V') (hX : ∀ k, X k → ∀ cs f, V.heap[k]? ≠ some (.cells cs 5 f)) (hv : ∀ k, v.ownBlock = some k → ¬ X k) : RL s F C v l V' :=
  ⟨h.rc, hk.row h.row hv, fun r hr => (h.dat r hr).kept hk hX⟩
theorem RL.rs (hs : Ok s) (h : RL s F C v l V) : ∃ A cap, v = .slice A l.length cap ∧ RsAt V A l := by
  have h0 := h.row
  rcases h.row.2 with ⟨rfl, hl⟩ | ⟨g, cap, cur, rfl, h1, _⟩
  · exact ⟨none, 0, by rw [hl], fun j hj => by omega⟩
  · refine ⟨_, _, rfl, rs_of_cells (fun j u hu => ?_) (fun j hj => (h.dat _ ?_).ok hs)⟩
    · have := h0.cells (g := g) rfl j u hu
      have e : (⟨g, 0, none⟩ : Addr).add j = ⟨g, j, none⟩ := by unfold Addr.add; split <;> simp_all
      rwa [e] at this
    · rw [show l.getD j default = l[j] by simp [List.getD, hj]]
      exact List.getElem_mem hj
/-- One more. -/
theorem RL.snoc (h : RL s F C v l V) (hl : l.length ≤ 1000) (hF : F ≤ V.heap.size) {c : Int} {A : Option Addr} {cap : Nat} (hd : D4 V (.slice A (dOf s c).length cap) (genO s c)) :
    ∃ v' W, (Builtin.append_ #[52, 52] 52 #[v, .slice (some ⟨V.heap.size, 0, none⟩) 1 1]).run Try.prog (V.alloc (.cells #[.int .i64 2, .int .i64 c, .slice A (dOf s c).length cap] 49)) = .ok v' W ∧ RL s F (C ++ [c]) v' (l ++ [⟨2, c, dOf s c, A, cap⟩]) W ∧ Kept (fun k => v.ownBlock = some k) V W ∧ (v'.ownBlock = v.ownBlock ∨ ∃ g, v'.ownBlock = some g ∧ V.heap.size ≤ g) := by
  obtain ⟨i0, hi, hz0, hz1, hz2⟩ := info_parts Try.infoRc3
  obtain ⟨v', W3, hrun, ho, hg, _, hat⟩ := run_append_own_at (P := Try.prog) (V.alloc (.cells #[.int .i64 2, .int .i64 c, .slice A (dOf s c).length cap] 49)) F 52 52 49 i0 _ 3 40 Try.underlying52 hi hz0 hz1 hz2 rfl (by decide) v l.length (csR l) (h.row.alloc _) ⟨V.heap.size, 0, none⟩ 1 1 [.int .i64 2, .int .i64 c, .slice A (dOf s c).length cap] rfl (World.news_of_block (cs := #[.int .i64 2, .int .i64 c, .slice A (dOf s c).length cap]) (World.alloc_heap_new V _)) (by intro u hu; simp at hu; rcases hu with rfl | rfl | rfl <;> rfl) (by unfold maxLen; omega) (by omega) (by simp; omega)
  have hK : Kept (fun k => v.ownBlock = some k) V W3 := ((Kept.refl (fun k => v.ownBlock = some k) V).alloc _).grown hg (fun k e => .inl e)
  have hX : ∀ k, v.ownBlock = some k → ∀ cs f, V.heap[k]? ≠ some (.cells cs 5 f) := by
    intro k hk cs f e
    obtain ⟨_, cur, f2, hg2⟩ := row_blk h.row hk
    rw [hg2] at e
    injection e with e
    injection e with _ e _
    exact absurd e (by decide)
  refine ⟨v', W3, hrun, ⟨h.rc.snoc, ?_, fun r hr => ?_⟩, hK, ?_⟩
  · rw [List.length_append, List.length_singleton, csR_append]
    exact ho
  · rcases List.mem_append.1 hr with hr | hr
    · exact (h.dat r hr).kept hK hX
    · rw [List.mem_singleton] at hr
      subst hr
      exact ⟨hd.kept hK hX, rfl⟩
  · rcases hat with e | e
    · exact .inl e
    · exact .inr ⟨_, e, by simp⟩
end
/-- Both lists, beside the claims and the cells. -/
structure RcI (w : World) (F b : Nat) (C : List Int) (vc : Value) (s : List Cm) (i : Nat) (va vb : Value) (V : World) : Prop where
  cl : CAt V b s
  row : V.ownsRow F 3 1 vc C.length (C.map iv)
  la : ∃ l, RL s F (C.take i) va l V
  lb : ∃ l, RL s F (C.reverse.take i) vb l V
  ne : ∀ k, va.ownBlock = some k → vb.ownBlock ≠ some k
  bd : w.heap.size ≤ b ∧ w.heap.size ≤ F ∧ F ≤ V.heap.size
  bl : Below w.heap.size w V
theorem RL.len {s : List Cm} {F : Nat} {C : List Int} {v : Value} {l : List Rc} {V : World} (h : RL s F C v l V) : l.length = C.length := h.rc.1
theorem rowb_ne {V : World} {F F' n n' sz sz' : Nat} {e e' : TypeId} {v v' : Value} {xs xs' : List Value} (h : V.ownsRow F e sz v n xs) (h' : V.ownsRow F' e' sz' v' n' xs') (he : e ≠ e') : ∀ k, v.ownBlock = some k → ¬ v'.ownBlock = some k := by
  intro k h1 h2
  obtain ⟨_, c1, f1, g1⟩ := row_blk h h1
  obtain ⟨_, c2, f2, g2⟩ := row_blk h' h2
  rw [g1] at g2
  injection g2 with g2
  injection g2 with _ g2 _
  exact he g2
theorem cl_ne {V : World} {b F n sz : Nat} {s : List Cm} {e : TypeId} {v : Value} {xs : List Value} (h : CAt V b s) (h' : V.ownsRow F e sz v n xs) (he : e ≠ 29) : ¬ v.ownBlock = some b := by
  intro h1
  obtain ⟨_, c1, f1, g1⟩ := row_blk h' h1
  rw [h.2.2] at g1
  injection g1 with g1
  injection g1 with _ g1 _
  exact he g1.symm
theorem u8_ne {V : World} {F n sz : Nat} {e : TypeId} {v : Value} {xs : List Value} (h' : V.ownsRow F e sz v n xs) (he : e ≠ 5) : ∀ k, v.ownBlock = some k → ∀ cs f, V.heap[k]? ≠ some (.cells cs 5 f) := by
  intro k h1 cs f hc
  obtain ⟨_, c1, f1, g1⟩ := row_blk h' h1
  rw [hc] at g1
  injection g1 with g1
  injection g1 with _ g1 _
  exact he g1.symm
section
variable {w V V' : World} {F b i : Nat} {C : List Int} {vc : Value} {s : List Cm} {va vb : Value}
theorem RcI.below (h : RcI w F b C vc s i va vb V) (hb : Below V.heap.size V V') : RcI w F b C vc s i va vb V' := by
  have hk : Kept (fun _ => False) V V' := Kept.of_below hb (Nat.le_refl _)
  obtain ⟨h1, h2, ⟨la, h3⟩, ⟨lb, h4⟩, h5, h6, h7⟩ := h
  exact ⟨h1.below hb, hk.row h2 (fun _ _ => id), ⟨la, h3.kept hk (fun _ h => h.elim) (fun _ _ => id)⟩, ⟨lb, h4.kept hk (fun _ h => h.elim) (fun _ _ => id)⟩, h5, ⟨h6.1, h6.2.1, Nat.le_trans h6.2.2 hb.size⟩, h7.trans (hb.mono h7.size)⟩
/-- The first list grows, then the second one: what lies between. -/
theorem RcI.one (h : RcI w F b C vc s i va vb V) (hi : i < C.length) (hC : C.length ≤ 100) {d : Value} (hd : D4 V d (genO s (C.getD i 0))) :
    ∃ A cap, d = .slice A (dOf s (C.getD i 0)).length cap ∧ ∃ v' W, (Builtin.append_ #[52, 52] 52 #[va, .slice (some ⟨V.heap.size, 0, none⟩) 1 1]).run Try.prog (V.alloc (.cells #[.int .i64 2, .int .i64 (C.getD i 0), .slice A (dOf s (C.getD i 0)).length cap] 49)) = .ok v' W ∧
      CAt W b s ∧ W.ownsRow F 3 1 vc C.length (C.map iv) ∧ (∃ l, RL s F (C.take (i + 1)) v' l W) ∧ (∃ l, RL s F (C.reverse.take i) vb l W) ∧ (∀ k, v'.ownBlock = some k → vb.ownBlock ≠ some k) ∧ (w.heap.size ≤ b ∧ w.heap.size ≤ F ∧ F ≤ W.heap.size) ∧ Below w.heap.size w W := by
  obtain ⟨A, cap, rfl⟩ := hd.sl
  obtain ⟨h1, h2, ⟨la, h3⟩, ⟨lb, h4⟩, h5, h6, h7⟩ := h
  have hln := h3.len
  rw [List.length_take] at hln
  obtain ⟨v', W, hrun, hl, hk, hat⟩ := h3.snoc (by omega) h6.2.2 hd
  have hu := u8_ne h3.row (by decide)
  refine ⟨A, cap, rfl, v', W, hrun, h1.kept hk (cl_ne h1 h3.row (by decide)), hk.row h2 (rowb_ne h2 h3.row (by decide)), ⟨la ++ [⟨2, C.getD i 0, dOf s (C.getD i 0), A, cap⟩], ?_⟩, ⟨lb, h4.kept hk hu (fun k e1 e2 => h5 k e2 e1)⟩, fun k e1 e2 => ?_, ⟨h6.1, h6.2.1, by have := hk.size; omega⟩, h7.trans (hk.below (fun k e => by have := (row_blk h3.row e).1; omega) h7.size)⟩
  · rw [List.take_succ_eq_append_getElem hi, show C[i] = C.getD i 0 by simp [List.getD, hi]]
    exact hl
  · rcases hat with e | ⟨g, e, hg⟩
    · rw [e] at e1; exact h5 k e1 e2
    · rw [e] at e1
      injection e1 with e1
      obtain ⟨_, cur, f, hb2⟩ := row_blk h4.row e2
      have := blk_lt hb2
      omega
theorem rev_take {C : List Int} {i : Nat} (hi : i < C.length) : C.reverse.take (i + 1) = C.reverse.take i ++ [C.getD (C.length - 1 - i) 0] := by
  rw [List.take_succ_eq_append_getElem (by simpa using hi), List.getElem_reverse]
  simp [List.getD, show C.length - 1 - i < C.length by omega]
theorem RcI.two (h1 : CAt V b s) (h2 : V.ownsRow F 3 1 vc C.length (C.map iv)) (h3 : ∃ l, RL s F (C.take (i + 1)) va l V) (h4 : ∃ l, RL s F (C.reverse.take i) vb l V) (h5 : ∀ k, va.ownBlock = some k → vb.ownBlock ≠ some k) (h6 : w.heap.size ≤ b ∧ w.heap.size ≤ F ∧ F ≤ V.heap.size) (h7 : Below w.heap.size w V)
    (hi : i < C.length) (hC : C.length ≤ 100) {d : Value} (hd : D4 V d (genO s (C.getD (C.length - 1 - i) 0))) :
    ∃ A cap, d = .slice A (dOf s (C.getD (C.length - 1 - i) 0)).length cap ∧ ∃ v' W, (Builtin.append_ #[52, 52] 52 #[vb, .slice (some ⟨V.heap.size, 0, none⟩) 1 1]).run Try.prog (V.alloc (.cells #[.int .i64 2, .int .i64 (C.getD (C.length - 1 - i) 0), .slice A (dOf s (C.getD (C.length - 1 - i) 0)).length cap] 49)) = .ok v' W ∧
      RcI w F b C vc s (i + 1) va v' W := by
  obtain ⟨A, cap, rfl⟩ := hd.sl
  obtain ⟨la, h3⟩ := h3
  obtain ⟨lb, h4⟩ := h4
  have hln := h4.len
  rw [List.length_take, List.length_reverse] at hln
  obtain ⟨v', W, hrun, hl, hk, hat⟩ := h4.snoc (by omega) h6.2.2 hd
  have hu := u8_ne h4.row (by decide)
  refine ⟨A, cap, rfl, v', W, hrun, h1.kept hk (cl_ne h1 h4.row (by decide)), hk.row h2 (rowb_ne h2 h4.row (by decide)), ⟨la, h3.kept hk hu (fun k e1 e2 => h5 k e1 e2)⟩, ⟨_, by rw [rev_take hi]; exact hl⟩, fun k e1 e2 => ?_, ⟨h6.1, h6.2.1, by have := hk.size; omega⟩, h7.trans (hk.below (fun k e => by have := (row_blk h4.row e).1; omega) h7.size)⟩
  rcases hat with e | ⟨g, e, hg⟩
  · rw [e] at e2; exact h5 k e1 e2
  · rw [e] at e2
    injection e2 with e2
    obtain ⟨_, cur, f, hb2⟩ := row_blk h3.row e1
    have := blk_lt hb2
    omega
end
end Go.Proofs.Ytijhkjegpcmjoaa
