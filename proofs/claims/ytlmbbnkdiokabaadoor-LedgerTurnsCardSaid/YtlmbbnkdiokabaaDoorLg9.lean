/-
  A cell freed, and granted on (where a generation is left).
-/
import Derived.Test.YtlmbbnkdiokabaaDoorLg8
namespace Go.Proofs.YtlmbbnkdiokabaaDoor
set_option maxRecDepth 100000
set_option linter.unusedSimpArgs false
open Go Go.RowKit Sp Lg
attribute [local go_sem] Oper.semAt_some

/-- A range over a function at the wide fence, whose iterator comes to its end, or is left by a jump. -/
theorem range_both {P : Program} {n : Nat} {g : Operand} {ps : Array Tmp} {assign body : Code} {Q : Exit → Act → World → Prop} {a : Act} {w : World} {gf : Nat} {lb : Array Value}
    (hg : a.eval g = .func (.func gf) #[] lb) (eg : ∀ args w, (callFunc gf args).run P w = .ok (.enter gf args) w) (c : Code)
    (h : ∀ (fn : FuncId) (rec : LoopState → Option Code → Loop) (W1 : World), (∀ st pe, rec st pe = { state := st, pending := pe, fn, tmps := a.tmps, params := ps, assign, body, defers := w.heap.size }) →
      W1 = (w.alloc (.deferred (some []))).alloc (.loop (rec .ready none)) →
      CallsIn Fence.wide (n - 1) P gf (#[.func (.yield (w.heap.size + 1)) #[] #[]] ++ lb) W1 fun e W2 => (∃ v, e = .returned v) ∧
        ((W2.heap[w.heap.size + 1]? = some (.loop (rec .ready none)) ∧ Q .normal { a with defers := [{ target := .collected w.heap.size, args := #[] }] ++ a.defers } (W2.putObj (w.heap.size + 1) (.loop (rec .exhausted none)))) ∨
         (W2.heap[w.heap.size + 1]? = some (.loop (rec .done (some c))) ∧
          c.wpIn Fence.wide n P Q { a with defers := [{ target := .collected w.heap.size, args := #[] }] ++ a.defers } (W2.putObj (w.heap.size + 1) (.loop (rec .exhausted (some c))))))) :
    (Code.rangeFunc g ps assign body).wpIn Fence.wide n P Q a w := by
  refine wpIn_rangeFunc fun fn _ => ?_
  obtain ⟨rec, hrec⟩ : ∃ rec : LoopState → Option Code → Loop, ∀ st pe, rec st pe = { state := st, pending := pe, fn, tmps := a.tmps, params := ps, assign, body, defers := w.heap.size } := ⟨fun st pe => _, fun _ _ => rfl⟩
  obtain ⟨W1, hW1⟩ : ∃ W1, (w.alloc (.deferred (some []))).alloc (.loop (rec .ready none)) = W1 := ⟨_, rfl⟩
  refine ⟨w.heap.size + 1, [{ target := .collected w.heap.size, args := #[] }], W1, { target := .fn (.func gf) lb, args := #[.func (.yield (w.heap.size + 1)) #[] #[]] }, W1, gf,
    #[.func (.yield (w.heap.size + 1)) #[] #[]] ++ lb, W1, ?_, ?_, ?_, ?_, ?_, ?_⟩
  · rw [← hW1, hrec]; exact run_enterLoop_outer _ _ _ _ _
  · simp only [resolve, hg]
    simp [go_sem]
  · exact fun _ _ => trivial
  · simp [invoke, go_sem, eg]
  · exact fun e => absurd e (by simp [Fence.wide])
  · refine (h fn rec W1 hrec hW1.symm).mono ?_
    rintro e W2 ⟨⟨v, rfl⟩, ⟨hl, hq⟩ | ⟨hl, hq⟩⟩
    · refine ⟨none, W2.putObj (w.heap.size + 1) (.loop (rec .exhausted none)), ?_, hq⟩
      have hend := run_endLoop (P := P) hl (by rw [hrec]; simp)
      rw [hrec] at hend ⊢
      exact hend
    · refine ⟨some c, W2.putObj (w.heap.size + 1) (.loop (rec .exhausted (some c))), ?_, hq⟩
      have hend := run_endLoop (P := P) hl (by rw [hrec]; simp)
      rw [hrec] at hend ⊢
      exact hend

namespace Lg
/-- A cell freed, and granted on. -/
def fr1 (s : S) (c : Int) : S := s.turn c ⟨-1, (s.E c).g⟩
def fr1o (s : S) (c : Int) (q : Dn) : Dn := q.write c ⟨-1, (s.E c).g⟩
def freS (s : S) (c : Int) : S := match s.Q c with
  | [] => fr1 s c
  | y :: l => grS ((fr1 s c).setQ c l) c y
def freO (s : S) (c : Int) (q : Dn) : Dn := match s.Q c with
  | [] => fr1o s c q
  | y :: l => grO ((fr1 s c).setQ c l) c y (fr1o s c q)
theorem cutL_head (y : Wt) (l : List Wt) : cutL (y :: l) y.r = l := by
  have : idx (y :: l) y.r = 0 := by simp [idx, List.findIdx_cons]
  unfold cutL has
  rw [this]; simp
end Lg
theorem taken_fn (w : World) (b : Nat) (c : Int) : Calls Tryd.prog 68 #[.pointer (some ⟨b, 0, none⟩), .int .i64 c] w fun e w' => e = .returned (.func (.func 79) #[] #[.pointer (some ⟨w.heap.size, 0, none⟩), .pointer (some ⟨w.heap.size + 1, 0, none⟩)]) ∧ w' = (w.alloc (.cells #[.pointer (some ⟨b, 0, none⟩)] 27)).alloc (.cells #[.int .i64 c] 3) := by
  go_enter Tryd.func68, Tryd.ntmps68
  go_wp2
  go_ret
  exact ⟨rfl, rfl⟩
section
variable {w V : World} {b me mq N B o : Nat} {P : Int → Option Nat} {s s' : S} {v : OV} {q q' : Dn}
theorem StepLO.put (h : StepLO w V b me mq P N s' B o v q') {l : Nat} (hl : w.heap.size ≤ l) {ob : Obj} (hob : V.heap[l]? = some ob) (hc : ob.isCells = false) (hm : ∀ es cl, ob ≠ .map es cl) (o' : Obj) : StepLO w (V.putObj l o') b me mq P N s' B o v q' := by
  obtain ⟨P', N', v', h1, h2, h3, h4, h5⟩ := h
  have hk : Kept (fun k => k = l) V (V.putObj l o') := (Kept.refl _ V).grown (grownBy_putObj' V l o') (fun k e => by cases e; exact .inl rfl)
  have nl : ¬ LX b me mq P' l := by
    rintro (rfl | rfl | rfl | ⟨c, e⟩)
    · rw [h1.led.blk] at hob; cases hob; cases hc
    · obtain ⟨es, cl, e⟩ := h1.led.ents.isMap; rw [e] at hob; cases hob; exact hm _ _ rfl
    · obtain ⟨es, cl, e⟩ := h1.led.ques.isMap; rw [e] at hob; cases hob; exact hm _ _ rfl
    · rw [(h1.led.some_ c l e).2.2] at hob; cases hob; cases hc
  have no : ¬ OfO o v' l := by
    intro e
    obtain ⟨_, _, ws, _, h6⟩ := h1.out
    obtain ⟨⟨t, cur, f, h7⟩, _⟩ := h6.some_typ e
    rw [h7] at hob; cases hob; cases hc
  have ng : ¬ 0 = l := fun e => by
    have h8 := h1.led.af.1
    unfold World.cell? at h8
    rw [e] at h8
    simp only [hob] at h8
    cases ob <;> first | (cases hc; done) | (simp at h8; done) | (cases h8)
  refine ⟨P', N', v', ⟨h1.led.kept hk (fun k h e => nl (by rw [← e]; exact h)) ng, h1.out.kept hk (fun k h e => no (by rw [← e]; exact h)) (fun k ⟨cur, f, h⟩ e => by rw [e, hob] at h; cases h; cases hc)⟩, h2, h3, h4, h5.trans hk (fun i hi e => ?_)⟩
  omega
theorem StepLO.then_below {V' : World} (h : StepLO w V b me mq P N s' B o v q') (hb : Below V.heap.size V V') : StepLO w V' b me mq P N s' B o v q' := by
  obtain ⟨P', N', v', h1, h2, h3, h4, h5⟩ := h
  exact ⟨P', N', v', h1.below hb, h2, h3, h4, h5.trans ((keptB hb).mono (Y := fun _ => False) (fun _ _ h => h)) (fun _ _ h => h.elim)⟩
theorem LO.nl (h1 : LO V b me mq P N s B o v q) {l : Nat} {ob : Obj} (hob : V.heap[l]? = some ob) (hc : ob.isCells = false) (hm : ∀ es cl, ob ≠ .map es cl) : ¬ (LX b me mq P l ∨ OfO o v l) := by
  rintro ((rfl | rfl | rfl | ⟨c, e⟩) | e)
  · rw [h1.led.blk] at hob; cases hob; cases hc
  · obtain ⟨es, cl, e⟩ := h1.led.ents.isMap; rw [e] at hob; cases hob; exact hm _ _ rfl
  · obtain ⟨es, cl, e⟩ := h1.led.ques.isMap; rw [e] at hob; cases hob; exact hm _ _ rfl
  · rw [(h1.led.some_ c l e).2.2] at hob; cases hob; cases hc
  · obtain ⟨_, _, ws, _, h6⟩ := h1.out
    obtain ⟨⟨t, cur, f, h7⟩, _⟩ := h6.some_typ e
    rw [h7] at hob; cases hob; cases hc
theorem StepL.mono {N2 : Nat} (h : StepL w V b me mq P N s') (hN : N ≤ N2) : StepL w V b me mq P N2 s' := by
  obtain ⟨P', N', h1, h2, h3, h4⟩ := h
  exact ⟨P', N', h1, Nat.le_trans h2 hN, h3, h4⟩
theorem StepLO.mono {N2 : Nat} (h : StepLO w V b me mq P N s' B o v q') (hN : N ≤ N2) : StepLO w V b me mq P N2 s' B o v q' := by
  obtain ⟨P', N', v', h1, h2, h3⟩ := h
  exact ⟨P', N', v', h1, Nat.le_trans h2 hN, h3⟩
theorem S.has_ne {s : S} {r : Int} (h : s.has r = true) : r ≠ -1 := by
  unfold S.has at h
  simp only [Bool.and_eq_true, decide_eq_true_eq] at h
  omega
set_option maxHeartbeats 2000000 in
theorem free_any (h : LO w b me mq P N s B o v q) {c : Int} (hc : s.is c = true) (hf : full s c = false) (hN : N < 99999990) {n : Nat} (hq : q.le n) (hn : n < 999990) :
    Calls Tryd.prog 50 #[.pointer (some ⟨b, 0, none⟩), .pointer (some ⟨o, 0, none⟩), .int .i64 c] w fun e w' => e = .returned (.tuple #[]) ∧ StepLO w w' b me mq P (N + 2) (freS s c) B o v (freO s c q) := by
  obtain ⟨R, hR⟩ : ∃ R : Ending → World → Prop, R = fun e w' => e = .returned (.tuple #[]) ∧ StepLO w w' b me mq P (N + 2) (freS s c) B o v (freO s c q) := ⟨_, rfl⟩
  have HR : Hid (∀ w', StepLO w w' b me mq P (N + 2) (freS s c) B o v (freO s c q) → R (.returned (.tuple #[])) w') := by rw [hR]; exact fun w' h1 => ⟨rfl, h1⟩
  rw [← hR]
  clear hR
  have hci := h.led.ok.i64 hc
  have hge := h.led.ok.eg c
  obtain ⟨o1, ho1⟩ : ∃ o1 : Obj, o1 = .cells #[.pointer (some ⟨b, 0, none⟩)] 27 := ⟨_, rfl⟩
  obtain ⟨o2, ho2⟩ : ∃ o2 : Obj, o2 = .cells #[.pointer (some ⟨o, 0, none⟩)] 106 := ⟨_, rfl⟩
  obtain ⟨o3, ho3⟩ : ∃ o3 : Obj, o3 = .cells #[.int .i64 c] 3 := ⟨_, rfl⟩
  obtain ⟨W0, hW0⟩ : ∃ W0, W0 = (((w.alloc o1).alloc o2).alloc o3).drew := ⟨_, rfl⟩
  have hb0 : Below w.heap.size w W0 := by rw [hW0]; exact ((((Below.refl _ w).alloc (Nat.le_refl _) o1).alloc (by simp) o2).alloc (by simp; omega) o3).drew
  have hz0 : W0.heap.size = w.heap.size + 3 := by rw [hW0]; simp
  have k1 : W0.heap[w.heap.size]? = some o1 := by rw [hW0]; exact heap_up (heap_up (World.alloc_heap_new w o1))
  have k2 : W0.heap[w.heap.size + 1]? = some o2 := by rw [hW0]; exact heap_up (heap2 w o1 o2)
  have k3 : W0.heap[w.heap.size + 2]? = some o3 := by
    rw [hW0]
    have := World.alloc_heap_new ((w.alloc o1).alloc o2) o3
    rw [World.size_alloc, World.size_alloc] at this
    exact this
  have h0 := h.below hb0
  have hnA := fun k (hk : w.heap.size ≤ k) => box_ne h hk
  -- the boxes stay
  have HBX : Hid (∀ V : World, (∀ k, w.heap.size ≤ k → k < w.heap.size + 3 → V.heap[k]? = W0.heap[k]?) → V.cell? ⟨w.heap.size, 0, none⟩ = some (.pointer (some ⟨b, 0, none⟩)) ∧ V.cell? ⟨w.heap.size + 1, 0, none⟩ = some (.pointer (some ⟨o, 0, none⟩)) ∧ V.cell? ⟨w.heap.size + 2, 0, none⟩ = some (.int .i64 c)) := by
    intro V hV
    have j1 := (hV w.heap.size (by omega) (by omega)).trans k1
    have j2 := (hV (w.heap.size + 1) (by omega) (by omega)).trans k2
    have j3 := (hV (w.heap.size + 2) (by omega) (by omega)).trans k3
    rw [ho1] at j1
    rw [ho2] at j2
    rw [ho3] at j3
    exact ⟨by rw [blk_cell j1]; rfl, by rw [blk_cell j2]; rfl, by rw [blk_cell j3]; rfl⟩
  have HE := Lib.hid (entry_any h0.led hci)
  simp only [ev] at HE
  have qf := field_g
  have HD : Hid (∀ W, Below W0.heap.size W0 W → (∀ k, w.heap.size ≤ k → k < w.heap.size + 3 → W.heap[k]? = W0.heap[k]?) ∧
      Calls Tryd.prog 46 #[.pointer (some ⟨b, 0, none⟩), .int .i64 c, ev (-1) (s.E c).g] W fun e W3 => (∀ k, w.heap.size ≤ k → k < w.heap.size + 3 → W3.heap[k]? = W0.heap[k]?) ∧ ∃ A n k, e = .returned (rcv c (.slice A n k)) ∧
        Calls Tryd.prog 62 #[.pointer (some ⟨o, 0, none⟩), rcv c (.slice A n k)] W3 fun e W4 => e = .returned (.tuple #[]) ∧ (∀ k, w.heap.size ≤ k → k < w.heap.size + 3 → W4.heap[k]? = W0.heap[k]?) ∧
          StepLO W0 W4 b me mq P (N + 1) (fr1 s c) B o v (fr1o s c q)) := by
    intro W hW
    have hkW : ∀ k, w.heap.size ≤ k → k < w.heap.size + 3 → W.heap[k]? = W0.heap[k]? := fun k _ hk => hW.block k (by omega)
    refine ⟨hkW, ?_⟩
    have h2 := h0.below hW
    refine (turn_any h2.led hc (en := ⟨-1, (s.E c).g⟩) (.inl rfl) hge (fun x hx => S.has_ne (h.led.ok.qr c x hx).1) (by omega)).mono ?_
    rintro e W3 ⟨⟨A, n', k, rfl, h8⟩, N', hN', h3, hk3⟩
    obtain ⟨P3, N3, v3, h4, h5, h6, h7, hk4⟩ := h2.led_step (StepL.of_me hN' h3 hk3)
    have hkk : ∀ V, Kept (fun k => LX b me mq P k ∨ OfO o v k) W V → ∀ k, w.heap.size ≤ k → k < w.heap.size + 3 → V.heap[k]? = W0.heap[k]? := fun V hV k e1 e2 => (hV.block k (by have := hW.size; omega) (hnA k e1)).trans (hkW k e1 e2)
    refine ⟨hkk _ hk4, A, n', k, rfl, ?_⟩
    refine (write_p h4.out hq (by omega) c ⟨-1, (s.E c).g⟩ h8).mono ?_
    rintro e W4 ⟨rfl, hz⟩
    obtain ⟨P4, N4, v4, h9, h10, h11, h12, hk5⟩ := StepLO.trans h6 h7 hk4 (h4.out_step hz h5)
    exact ⟨rfl, hkk _ hk5, StepLO.of_below hW ⟨P4, N4, v4, h9, h10, h11, h12, hk5⟩⟩
  have HR0 : Hid (∀ w', StepLO W0 w' b me mq P (N + 2) (freS s c) B o v (freO s c q) → R (.returned (.tuple #[])) w') := fun w' h1 => HR.out w' (StepLO.of_below hb0 h1)
  have HNB : Hid (∀ (Pb : Int → Option Nat) (vb : OV), (∀ c k, Pb c = some k → P c = some k ∨ W0.heap.size ≤ k) → (∀ k, OfO o vb k → OfO o v k ∨ W0.heap.size ≤ k) → ∀ k, w.heap.size ≤ k → k < w.heap.size + 3 → ¬ (LX b me mq Pb k ∨ OfO o vb k)) := by
    intro Pb vb h1 h2 k e1 e2 h3
    rcases h3 with h3 | h3
    · rcases LX.grow h1 h3 with e | e
      · have := h.led.lt e; omega
      · omega
    · rcases h2 k h3 with e | e
      · have := (h.out.lt e).2; omega
      · omega
  clear HR
  have HZ0 := Lib.hid hz0
  have HNA := Lib.hid hnA
  have HH := Lib.hid h
  have HHN := Lib.hid hN
  have HHQ := Lib.hid hq
  have HHn := Lib.hid hn
  have HC0 := Lib.hid hc
  have HF0 := Lib.hid hf
  obtain ⟨z1, z2, z3⟩ := HBX.out W0 (fun _ _ _ => rfl)
  have hS0 : (W0.cell? ⟨w.heap.size, 0, none⟩ = some (.pointer (some ⟨b, 0, none⟩)) ∧ W0.cell? ⟨w.heap.size + 1, 0, none⟩ = some (.pointer (some ⟨o, 0, none⟩)) ∧ W0.cell? ⟨w.heap.size + 2, 0, none⟩ = some (.int .i64 c)) := ⟨z1, z2, z3⟩
  clear h h0 hb0 hz0 hnA hN hq hn k1 k2 k3 hge hc hf z1 z2 z3
  have HW0 := Lib.hid hW0
  clear hW0
  rw [ho1, ho2, ho3] at HW0
  generalize hgg : (s.E c).g = g at HE HD
  clear hgg
  generalize (s.E c).r = r at HE
  refine (callsIn_wide (n := 9)).1 ?_
  refine callsIn_of_wp_marks Tryd.func50 rfl trivial ?_ rfl
  simp only [Tryd.ntmps50, List.size_toArray, List.length_cons, List.length_nil, Nat.reduceAdd, Nat.reduceSub, Array.replicate_succ, Array.replicate_zero, List.push_toArray, List.append_toArray, List.nil_append, List.cons_append]
  gi_wp2_with fail
  have eW := HW0.out
  clear HW0
  subst eW
  refine wpIn_wide.2 (wp_scope_straight ((wpIn_wide (n := 9)).1 ?_))
  gi_wp2_with fail
  refine wpIn_wide.2 ?_
  go_region_held3 (fun V => V.cell? ⟨w.heap.size, 0, none⟩ = some (.pointer (some ⟨b, 0, none⟩)) ∧ V.cell? ⟨w.heap.size + 1, 0, none⟩ = some (.pointer (some ⟨o, 0, none⟩)) ∧ V.cell? ⟨w.heap.size + 2, 0, none⟩ = some (.int .i64 c)) (first | exact hS0 | exact hs1 | exact hs3 | exact hs4)
    (first
      | (go_at_call 41; (with_reducible refine HE.out.mono ?_); rintro e W ⟨rfl, hW⟩; obtain ⟨hk1, hT⟩ := HD.out W hW; have hs1 := HBX.out W hk1; have HT := Lib.hid hT; clear hT)
      | (go_at_call 46; (with_reducible refine HT.out.mono ?_); rintro e W3 ⟨hk3, A, n', k', rfl, hU⟩; have hs3 := HBX.out W3 hk3; have HU := Lib.hid hU; clear hU)
      | (go_at_call 62; (with_reducible refine HU.out.mono ?_); rintro e W4 ⟨rfl, hk4, hst⟩; have hs4 := HBX.out W4 hk4; have HST := Lib.hid hst; clear hst))
  clear HE HD HT HU qf hS0 hs1 hs3
  obtain ⟨c1, c2, c3⟩ := hs4
  have HCL := Lib.hid (taken_fn W4 b c)
  have hs4z : w.heap.size + 3 ≤ W4.heap.size := by have := World.block_lt_of_cell? W4 _ c3; dsimp only at this; omega
  gi_wp2_with fail
  first | refine wpIn_seq (wpIn_label ?_) | refine wpIn_label ?_
  gi_wp2_with fail
  refine ⟨trivial, (callsIn_wide.2 HCL.out).mono ?_⟩
  rintro e w2 ⟨rfl, hw2⟩
  gi_wp2_with fail
  obtain ⟨W5, hW5⟩ : ∃ W5, W5 = (W4.alloc (.cells #[.pointer (some ⟨b, 0, none⟩)] 27)).alloc (.cells #[.int .i64 c] 3) := ⟨_, rfl⟩
  rw [← hW5]
  have hb5 : Below W4.heap.size W4 W5 := by rw [hW5]; exact (alloc_below _ _).trans ((alloc_below _ _).mono (by simp))
  have hz5 : W5.heap.size = W4.heap.size + 2 := by rw [hW5]; simp
  have j1 : W5.heap[W4.heap.size]? = some (.cells #[.pointer (some ⟨b, 0, none⟩)] 27 (0, 0)) := by rw [hW5]; exact heap_up (World.alloc_heap_new W4 _)
  have j2 : W5.heap[W4.heap.size + 1]? = some (.cells #[.int .i64 c] 3 (0, 0)) := by rw [hW5]; exact heap2 _ _ _
  have hbx5 : ∀ k, w.heap.size ≤ k → k < w.heap.size + 3 → W5.heap[k]? = W4.heap[k]? := fun k _ e => hb5.block k (by omega)
  clear hW5
  generalize hWW : ((((w.alloc (Obj.cells #[Value.pointer (some { block := b, off := 0 })] 27)).alloc (Obj.cells #[Value.pointer (some { block := o, off := 0 })] 106)).alloc (Obj.cells #[Value.int IntKind.i64 c] 3)).drew) = W0 at *
  refine range_both (gf := 79) (lb := #[.pointer (some ⟨W4.heap.size, 0, none⟩), .pointer (some ⟨W4.heap.size + 1, 0, none⟩)]) rfl (enters_of Tryd.func79 (by kernel_rfl) rfl) (.exit 0) ?_
  intro fn rec W1 hrec hW1
  obtain ⟨D, hD⟩ : ∃ D, W5.heap.size = D := ⟨_, rfl⟩
  rw [hD] at hrec ⊢
  have hD1 : W1.heap[D]? = some (.deferred (some [])) := by
    rw [hW1, ← hD]; exact heap_up (World.alloc_heap_new _ _)
  have hL1 : W1.heap[D + 1]? = some (.loop (rec .ready none)) := by
    rw [hW1, ← hD]; exact heap2 _ _ _
  have hb1 : Below W5.heap.size W5 W1 := by rw [hW1]; exact (alloc_below _ _).trans ((alloc_below _ _).mono (by simp))
  have hz1 : W1.heap.size = D + 2 := by rw [hW1, ← hD]; simp
  have hst1 : StepLO W0 W1 b me mq P (N + 1) (fr1 s c) B o v (fr1o s c q) := HST.out.then_below (hb5.trans (hb1.mono hb5.size))
  have hbx1 : ∀ k, w.heap.size ≤ k → k < w.heap.size + 3 → W1.heap[k]? = W0.heap[k]? := fun k e1 e2 => ((hb1.block k (by omega)).trans (hbx5 k e1 e2)).trans (hk4 k e1 e2)
  have jj1 : W1.heap[W4.heap.size]? = _ := (hb1.block _ (blk_lt j1)).trans j1
  have jj2 : W1.heap[W4.heap.size + 1]? = _ := (hb1.block _ (blk_lt j2)).trans j2
  have hDW : W0.heap.size ≤ D := by
    obtain ⟨_, _, _, _, _, _, _, hK⟩ := HST.out
    have := hK.size
    omega
  clear hW1 hb1 hb5 j1 j2 hbx5 HCL hs4z c1 c2 c3
  have hqn : ∀ x ∈ s.Q c, s.has x.r = true := fun x hx => (HH.out.led.ok.qr c x hx).1
  have hone := (HH.out.led.ok.q c).one
  obtain ⟨Pa, Na, va, hLa, hNa, hPa, hva, hKa⟩ := hst1
  have hst1 : StepLO W0 W1 b me mq P (N + 1) (fr1 s c) B o v (fr1o s c q) := ⟨Pa, Na, va, hLa, hNa, hPa, hva, hKa⟩
  refine (taken_one (9 - 1) (D + 1) W4.heap.size (W4.heap.size + 1) b mq c (by omega) (p := (Pa c).map fun o => ⟨o, 0, none⟩) (y := (s.Q c).getD 0 w0) (is := decide (0 < (s.Q c).length))
    (J := fun V => s.Q c ≠ [] ∧ StepLO W0 V b me mq P (N + 1) ((fr1 s c).setQ c (s.Q c).tail) B o v (fr1o s c q) ∧ (∀ k, w.heap.size ≤ k → k < w.heap.size + 3 → V.heap[k]? = W0.heap[k]?) ∧ V.heap[D]? = some (.deferred (some [])) ∧ V.heap[D + 1]? = some (.loop (rec .ready none)))
    (Jx := fun V => StepLO W0 V b me mq P (N + 2) (freS s c) B o v (freO s c q) ∧ V.heap[D]? = some (.deferred (some [])) ∧ V.heap[D + 1]? = some (.loop (rec .done (some (.exit 0))))) ?_ ?_ ?_).mono ?_
  · intro V hV
    have hLV := hLa.below hV
    have i1 : V.heap[W4.heap.size]? = _ := (hV.block _ (blk_lt jj1)).trans jj1
    have i2 : V.heap[W4.heap.size + 1]? = _ := (hV.block _ (blk_lt jj2)).trans jj2
    exact ⟨by rw [blk_cell i1]; rfl, by rw [blk_cell i2]; rfl, hLV.led.five.2.2.2.2, hLV.led.lookQ hci, first_any (hLV.led.qp c)⟩
  · intro hpos V hV
    obtain ⟨Pb, Nb, vb, hLb, hNb, hPb, hvb, hKb⟩ := hst1.then_below hV
    have hVD : V.heap[D]? = some (.deferred (some [])) := (hV.block _ (blk_lt hD1)).trans hD1
    have hVL : V.heap[D + 1]? = some (.loop (rec .ready none)) := (hV.block _ (blk_lt hL1)).trans hL1
    refine (cut_led hLb.led hci _).mono ?_
    rintro e V' ⟨rfl, hsl⟩
    have hsl2 := hLb.led_step (hsl.mono hNb)
    obtain ⟨P', N', h1, h2, h3, h4⟩ := hsl
    have hcut : cutL ((fr1 s c).Q c) ((s.Q c).getD 0 w0).r = (s.Q c).tail := by
      show cutL (s.Q c) ((s.Q c).getD 0 w0).r = (s.Q c).tail
      cases hQ : s.Q c with
      | nil => rw [hQ] at hpos; simp at hpos
      | cons y l => exact cutL_head y l
    rw [hcut] at hsl2
    refine ⟨rfl, fun k cur hk => (h4.block k (blk_lt hk) (fun e => ?_)).trans hk, fun e => (by rw [e] at hpos; simp at hpos), StepLO.trans hPb hvb hKb hsl2, fun k e1 e2 => ?_, (h4.block D (blk_lt hVD) (fun e => ?_)).trans hVD, (h4.block (D + 1) (blk_lt hVL) (fun e => ?_)).trans hVL⟩
    · rcases hLb.led.typ e ⟨_, _, hk⟩ with e | e <;> exact absurd e (by decide)
    · have hkz : k < W1.heap.size := by have := HZ0.out; omega
      exact (h4.block k (Nat.lt_of_lt_of_le hkz hV.size) (fun e => HNB.out Pb vb hPb hvb k e1 e2 (.inl e))).trans ((hV.block k hkz).trans (hbx1 k e1 e2))
    · exact hLb.nl hVD rfl (fun _ _ e => by cases e) (.inl e)
    · exact hLb.nl hVL rfl (fun _ _ e => by cases e) (.inl e)
  · rintro V ⟨hpos, hst, hbx, hVD, hVL⟩
    have hQne : s.Q c = (s.Q c).getD 0 w0 :: (s.Q c).tail ∨ s.Q c = [] := by
      cases s.Q c with
      | nil => exact .inr rfl
      | cons y l => exact .inl rfl
    generalize hy9 : (s.Q c).getD 0 w0 = y at *
    obtain ⟨y0, y1, y2⟩ := y
    dsimp only at *
    have hL0 := hVL
    rw [hrec] at hL0
    have hy := run_yield (P := Tryd.prog) (args := #[.agg #[.int .i64 y0, .int .u64 y1, .int .i64 y2]]) hL0 rfl
    refine ⟨fn, _, _, _, hy, roundIn_of_wpIn trivial ?_⟩
    obtain ⟨ow, how⟩ : ∃ ow : Obj, ow = .cells #[.int .i64 y0, .int .u64 y1, .int .i64 y2] 71 := ⟨_, rfl⟩
    obtain ⟨Wb, hWb⟩ : ∃ Wb, (V.alloc ow).putObj (D + 1) (.loop (rec .busy none)) = Wb := ⟨_, rfl⟩
    have hla : (V.alloc ow).heap[D + 1]? = some (.loop (rec .ready none)) := heap_up hVL
    have hbg : (Instr.beginRound (D + 1)).run Tryd.prog (V.alloc ow) = .ok () Wb := by
      rw [hrec] at hla
      rw [← hWb, hrec]; exact run_beginRound hla rfl
    have hDV := blk_lt hVD
    have hLV := blk_lt hVL
    have hLb : Wb.heap[D + 1]? = some (.loop (rec .busy none)) := by rw [← hWb]; exact World.putObj_heap_same (blk_lt hla)
    have hDb : Wb.heap[D]? = some (.deferred (some [])) := by rw [← hWb]; exact (World.putObj_heap_other (by omega)).trans (heap_up hVD)
    have hstb : StepLO W0 Wb b me mq P (N + 1) ((fr1 s c).setQ c (s.Q c).tail) B o v (fr1o s c q) := by
      rw [← hWb]
      exact (hst.then_below (alloc_below V ow)).put (by omega) hla rfl (fun _ _ e => by cases e) _
    have hbw : Wb.heap[V.heap.size]? = some ow := by rw [← hWb]; exact (World.putObj_heap_other (by omega)).trans (World.alloc_heap_new V ow)
    rw [how] at hbw
    have hbxb : ∀ k, w.heap.size ≤ k → k < w.heap.size + 3 → Wb.heap[k]? = W0.heap[k]? := by
      intro k e1 e2
      have := HZ0.out
      rw [← hWb]
      exact ((World.putObj_heap_other (by omega)).trans (Below.heap_alloc V ow k (by omega))).trans (hbx k e1 e2)
    obtain ⟨z1, z2, z3⟩ := HBX.out Wb hbxb
    obtain ⟨Pb, Nb, vb, hLb2, hNb, hPb, hvb, hKb⟩ := hstb
    have hfull : full ((fr1 s c).setQ c (s.Q c).tail) c = false := by
      have := HF0.out
      unfold full fr1 S.turn S.setQ at *
      simpa using this
    have hQc : s.Q c = ⟨y0, y1, y2⟩ :: (s.Q c).tail := hQne.resolve_right hpos
    have hys : s.has y0 = true := hqn ⟨y0, y1, y2⟩ (by rw [hQc]; exact List.mem_cons_self)
    have hyq : ∀ x ∈ ((fr1 s c).setQ c (s.Q c).tail).Q c, x.r ≠ y0 := by
      intro x hx
      have hx2 : x ∈ (s.Q c).tail := by
        have : x ∈ (if c = c then (s.Q c).tail else (fr1 s c).Q c) := hx
        rwa [if_pos rfl] at this
      rw [hQc] at hone
      exact fun e => (List.pairwise_cons.1 hone).1 x hx2 e.symm
    have hres : grS ((fr1 s c).setQ c (s.Q c).tail) c ⟨y0, y1, y2⟩ = freS s c ∧ grO ((fr1 s c).setQ c (s.Q c).tail) c ⟨y0, y1, y2⟩ (fr1o s c q) = freO s c q := by
      unfold freS freO
      rw [hQc]
      exact ⟨rfl, rfl⟩
    have HG : Hid (Calls Tryd.prog 43 #[.pointer (some ⟨b, 0, none⟩), .pointer (some ⟨o, 0, none⟩), .int .i64 c, .agg #[.int .i64 y0, .int .u64 y1, .int .i64 y2]] Wb fun e W' => e = .returned (.bool true) ∧
        ∃ z w', (Instr.endRound (D + 1) (some (.exit 0))).run Tryd.prog W' = .ok z w' ∧ (Ending.returned z = .returned (.bool false) ∧ StepLO W0 w' b me mq P (N + 2) (freS s c) B o v (freO s c q) ∧ w'.heap[D]? = some (.deferred (some [])) ∧ w'.heap[D + 1]? = some (.loop (rec .done (some (.exit 0)))))) := by
      have hq1 : (fr1o s c q).le (n + 1) := HHQ.out.write _ _
      have hN9 := HHN.out
      have hn9 := HHn.out
      refine (grant_any hLb2 (c := c) HC0.out ⟨y0, y1, y2⟩ hys hyq (by omega) hq1 (by omega)).mono ?_
      rintro e W' ⟨rfl, hs⟩
      rw [hres.1, hres.2] at hs
      have hs2 := StepLO.trans hPb hvb hKb (hs.mono (N2 := N + 2) (by omega))
      obtain ⟨_, _, _, _, _, _, _, hK9⟩ := hs
      have hL9 : W'.heap[D + 1]? = some (.loop (rec .busy none)) := (hK9.block _ (blk_lt hLb) (fun e => hLb2.nl hLb rfl (fun _ _ e => by cases e) e)).trans hLb
      have hD9 : W'.heap[D]? = some (.deferred (some [])) := (hK9.block _ (blk_lt hDb) (fun e => hLb2.nl hDb rfl (fun _ _ e => by cases e) e)).trans hDb
      have hL3 := hL9
      rw [hrec] at hL3
      have he := run_endRound (P := Tryd.prog) (some (.exit 0)) hL3
      refine ⟨by rw [hfull]; rfl, _, _, he, rfl, hs2.put (by omega) hL9 rfl (fun _ _ e => by cases e) _, (World.putObj_heap_other (by omega)).trans hD9, ?_⟩
      rw [World.putObj_heap_same (blk_lt hL3), hrec]; rfl
    have q0 : Wb.cell? ⟨V.heap.size, 0, none⟩ = some (.int .i64 y0) := by rw [blk_cell hbw]; rfl
    have q1 : Wb.cell? ⟨V.heap.size, 1, none⟩ = some (.int .u64 y1) := by rw [blk_cell hbw]; rfl
    have q2 : Wb.cell? ⟨V.heap.size, 2, none⟩ = some (.int .i64 y2) := by rw [blk_cell hbw]; rfl
    have HBG := Lib.hid hbg
    rw [how] at HBG
    clear hbg hy hst hbx hVD hVL hL0 hla hWb hLb hDb hbw hbxb hLb2 hNb hPb hvb hKb hfull hQc hys hyq hres hrec hqn hone hLa hNa hPa hva hKa hst1 hbx1 jj1 jj2 HST hDW hz1 hD1 hL1 hDV hLV hQne
    have H7 : Hid (1 ≤ 9 - 1 - 1) := by show 1 ≤ 9 - 1 - 1; omega
    gi_wp2
    refine ⟨Wb, HBG.out, ?_⟩
    gi_wp2_with fail
    first | refine ⟨trivial, (CallsIn.inRound (D + 1) (callsIn_wide.2 HG.out)).mono ?_⟩ | refine ⟨trivial, fun _ => H7.out, (CallsIn.inRound (D + 1) (callsIn_wide.2 HG.out)).mono ?_⟩
    rintro e W' ⟨rfl, hE⟩
    have HE := Lib.hid hE
    clear hE HG
    gi_wp2
    exact HE.out
  · rintro e W2 ⟨hv, hrest⟩
    have hfin : StepLO W0 W2 b me mq P (N + 2) (freS s c) B o v (freO s c q) ∧ W2.heap[D]? = some (.deferred (some [])) := by
      rcases hrest with ⟨hi, hbW⟩ | ⟨_, hs, hD2, _⟩
      · have hQ0 : s.Q c = [] := by
          cases hQ : s.Q c with
          | nil => rfl
          | cons y l => rw [hQ] at hi; simp at hi
        refine ⟨?_, (hbW.block _ (blk_lt hD1)).trans hD1⟩
        have : freS s c = fr1 s c ∧ freO s c q = fr1o s c q := by
          unfold freS freO
          rw [hQ0]
          exact ⟨rfl, rfl⟩
        rw [this.1, this.2]
        exact (hst1.then_below hbW).mono (by omega)
      · exact ⟨hs, hD2⟩
    have hload : ∃ ob, W2.heap[D + 1]? = some (.loop ob) := by
      rcases hrest with ⟨hi, hbW⟩ | ⟨_, hs, _, hL2⟩
      · exact ⟨_, (hbW.block _ (blk_lt hL1)).trans hL1⟩
      · exact ⟨_, hL2⟩
    obtain ⟨ob, hob⟩ := hload
    have HFin : Hid (∀ X, R (.returned (.tuple #[])) ((W2.putObj (D + 1) (.loop X)).putObj D (.deferred none)) ∧ (W2.putObj (D + 1) (.loop X)).heap[D]? = some (.deferred (some []))) := by
      intro X
      have h1 := hfin.1.put (by omega) hob rfl (fun _ _ e => by cases e) (.loop X)
      have h2 : (W2.putObj (D + 1) (.loop X)).heap[D]? = some (.deferred (some [])) := (World.putObj_heap_other (by omega)).trans hfin.2
      exact ⟨HR0.out _ (h1.put hDW h2 rfl (fun _ _ e => by cases e) _), h2⟩
    refine ⟨hv, ?_⟩
    rcases hrest with ⟨hi, hbW⟩ | ⟨_, hs, _, hL2⟩
    · refine .inl ⟨(hbW.block _ (blk_lt hL1)).trans hL1, ?_⟩
      obtain ⟨hF, hD3⟩ := HFin.out (rec .exhausted none)
      have HF := Lib.hid hF
      have HD3 := Lib.hid hD3
      clear hF hD3 HFin hfin hob hv hbW hrec hqn hone hLa hNa hPa hva hKa hst1 hbx1 jj1 jj2 HST hDW hz1 hD1 hL1
      generalize W2.putObj (D + 1) (.loop (rec .exhausted none)) = W3 at *
      gi_wp2
      refine ⟨by simp, .inl ⟨_, _, rfl, run_takeDeferred HD3.out, ?_⟩⟩
      exact ⟨_, results_none rfl _ _ _, HF.out⟩
    · refine .inr ⟨hL2, ?_⟩
      obtain ⟨hF, hD3⟩ := HFin.out (rec .exhausted (some (.exit 0)))
      have HF := Lib.hid hF
      have HD3 := Lib.hid hD3
      clear hF hD3 HFin hfin hob hv hs hL2 hrec hqn hone hLa hNa hPa hva hKa hst1 hbx1 jj1 jj2 HST hDW hz1 hD1 hL1
      generalize W2.putObj (D + 1) (.loop (rec .exhausted (some (.exit 0)))) = W3 at *
      gi_wp2
      refine ⟨by simp, .inl ⟨_, _, rfl, run_takeDeferred HD3.out, ?_⟩⟩
      exact ⟨_, results_none rfl _ _ _, HF.out⟩
end
end Go.Proofs.YtlmbbnkdiokabaaDoor
