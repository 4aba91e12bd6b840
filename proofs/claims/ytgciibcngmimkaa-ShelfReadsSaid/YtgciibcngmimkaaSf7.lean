/-
  The iterator that tells a shelf's records.
-/
import Derived.Test.YtgciibcngmimkaaSf6
import Derived.Test.YtgciibcngmimkaaRange4
import Derived.RangeFuncBound
import Derived.OwnWalkIn
import Derived.TacticsInMore
import Derived.LoopNIn
import Derived.LoopIn
namespace Go.Proofs.Ytgciibcngmimkaa
set_option maxRecDepth 100000
set_option linter.unusedSimpArgs false
open Go Go.RowKit Sf
attribute [local go_sem] Oper.semAt_some

/-- What a round keeps: what lay ahead of the loop, but X; and lists of numbers. -/
def KpF (F : Nat) (X : Nat → Prop) (A B : World) : Prop := A.heap.size ≤ B.heap.size ∧ (∀ k, k < F → ¬ X k → B.heap[k]? = A.heap[k]?) ∧ ∀ (k : Nat) (cs : Array Value) (f : Nat × Nat), A.heap[k]? = some (Obj.cells cs 3 f) → B.heap[k]? = A.heap[k]?
theorem KpF.refl (F : Nat) (X : Nat → Prop) (A : World) : KpF F X A A := ⟨Nat.le_refl _, fun _ _ _ => rfl, fun _ _ _ _ => rfl⟩
theorem KpF.trans {F : Nat} {X : Nat → Prop} {A B C : World} (h : KpF F X A B) (k : KpF F X B C) : KpF F X A C :=
  ⟨Nat.le_trans h.1 k.1, fun i hi hx => (k.2.1 i hi hx).trans (h.2.1 i hi hx), fun i cs f hc => (k.2.2 i cs f ((h.2.2 i cs f hc).trans hc)).trans (h.2.2 i cs f hc)⟩
theorem KpF.of_kept {F : Nat} {X Y : Nat → Prop} {A B : World} (h : Kept Y A B) (hF : F ≤ A.heap.size) (hY : ∀ k, Y k → k < F → X k) (hi : ∀ k, Y k → ∀ (cs : Array Value) (f : Nat × Nat), A.heap[k]? ≠ some (Obj.cells cs 3 f)) : KpF F X A B :=
  ⟨h.size, fun k hk hx => h.block k (by omega) (fun hy => hx (hY k hy hk)), fun k cs f hc => h.block k (blk_lt hc) (fun hy => hi k hy cs f hc)⟩
theorem KpF.put {F : Nat} {X : Nat → Prop} (W : World) (l : Nat) (o o' : Obj) (hl : F ≤ l) (hlo : W.heap[l]? = some o) (ho : o.isCells = false) : KpF F X W (W.putObj l o') := by
  refine ⟨by simp [World.putObj], fun k hk _ => World.putObj_heap_other (by omega), fun k cs f hc => World.putObj_heap_other ?_⟩
  rintro rfl
  rw [hlo] at hc
  cases hc
  cases ho

theorem R8.blocks {w w' : World} {X : Nat → Prop} {v : Value} {l : List Nat} (h : R8 w v l) (hk : ∀ k, k < w.heap.size → ¬ X k → w'.heap[k]? = w.heap[k]?) (hX : No8 X w) : R8 w' v l := by
  refine ⟨h.1, ?_⟩
  rcases h.2 with hn | ⟨g, cap, cur, rfl, hb, hg, rest⟩
  · exact .inl hn
  · exact .inr ⟨g, cap, cur, rfl, hb, by rw [hk g (blk_lt hg) (hX g _ _ hg)]; exact hg, rest⟩
theorem MapM.blocks {w w' : World} {m N : Nat} {M : List Ent} {X : Nat → Prop} (h : MapM w m N M) (hk : ∀ k, k < w.heap.size → ¬ X k → w'.heap[k]? = w.heap[k]?) (hm : ¬ X m) (h8 : No8 X w) : MapM w' m N M := by
  have hlt := h.lt
  obtain ⟨D, ho, h1, h2, h3⟩ := h
  refine ⟨D, own_same ho (hk m hlt hm), h1, h2, fun e he => ?_⟩
  obtain ⟨v, h4, h5⟩ := h3 e he
  exact ⟨v, h4, R8.blocks h5 hk h8⟩
theorem ShAt.blocks {w w' : World} {b N : Nat} {mo : Option Nat} {M : List Ent} {X : Nat → Prop} (h : ShAt w b mo N M) (hk : ∀ k, k < w.heap.size → ¬ X k → w'.heap[k]? = w.heap[k]?) (hX : ∀ k, OfS b mo k → ¬ X k) (h8 : No8 X w) : ShAt w' b mo N M :=
  ⟨(hk b h.lt (hX b (.inl rfl))).trans h.blk, h.none_, fun m e => (h.some_ m e).blocks hk (hX m (.inr e)) h8, h.ok⟩

/-- What is told: a record, its bytes in new memory. -/
def enR (x : Ent × Value) : Array Value := #[.agg #[.int .i64 ((x.1.1 / 65536 : Nat) : Int), .int .i64 ((x.1.1 % 65536 : Nat) : Int), x.2]]
def PpR (M : List Ent) (pre : List (Ent × Value)) (x : Ent × Value) (W0 W : World) : Prop := pre.map (·.1) ++ [x.1] <+: M ∧ R8 W x.2 x.1.2 ∧ (∀ g, x.2.ownBlock = some g → W0.heap.size ≤ g) ∧ Kept (fun _ => False) W0 W
theorem take_snoc' {M : List Ent} {j : Nat} (h : j < M.length) : M.take (j + 1) = M.take j ++ [M.getD j (0, [])] := by
  rw [List.take_add_one]
  congr 1
  rw [List.getElem?_eq_getElem h]
  simp [List.getD, h]

set_option maxHeartbeats 2000000 in
theorem told_w (n : Nat) (hn : 1 ≤ n) {w : World} {b N bx : Nat} {mo : Option Nat} {M : List Ent} {X : Nat → Prop} (h : ShAt w b mo N M) (hx : w.heap[bx]? = some (.cells #[.pointer (some ⟨b, 0, none⟩)] 24 (0, 0)))
    (hX : ∀ k, OfS b mo k ∨ k = bx → ¬ X k) (h8 : No8 X w) :
    TellsW n Try.prog 36 #[.pointer (some ⟨bx, 0, none⟩)] enR (Kept (fun _ => False)) (KpF w.heap.size X)
      (fun xs => xs.map (·.1) = M) (PpR M) w := by
  intro y J Jx W hW hT hY h0
  have HY' := Lib.hid hY
  have HT' := Lib.hid hT
  obtain ⟨F, hF⟩ : ∃ F, F = w.heap.size := ⟨_, rfl⟩
  rw [← hF] at HY' hW
  have hWF : F ≤ W.heap.size := by rw [hF]; exact hF ▸ hW.size
  -- a world in which the shelf lies as it lay
  have HS : Hid (∀ V, (∀ k, k < F → ¬ X k → V.heap[k]? = w.heap[k]?) → ShAt V b mo N M ∧ V.cell? ⟨bx, 0, none⟩ = some (.pointer (some ⟨b, 0, none⟩)) ∧ V.cell? ⟨b, 0, none⟩ = some (.map mo)) := by
    intro V hV
    rw [hF] at hV
    have hs := h.blocks hV (fun k hk => hX k (.inl hk)) h8
    exact ⟨hs, by rw [blk_cell ((hV bx (blk_lt hx) (hX bx (.inr rfl))).trans hx)]; rfl, by rw [blk_cell hs.blk]; rfl⟩
  have hW0 : ∀ k, k < F → ¬ X k → W.heap[k]? = w.heap[k]? := fun k hk _ => hW.block k hk
  obtain ⟨hs0, q0, q1⟩ := HS.out W hW0
  have hok := hs0.ok
  have hsort := sorted_any hs0
  have HSo := Lib.hid hsort
  have hKe : Hid (∀ V, Calls Try.prog 38 #[.map mo] V fun e w' => e = .returned (.func (.func 41) #[] #[.pointer (some ⟨V.heap.size, 0, none⟩)]) ∧ w' = V.alloc (.cells #[.map mo] 25)) := fun V => keys_any mo V
  have HOK := Lib.hid hok
  have HW0 := Lib.hid hW0
  have H0 := Lib.hid h0
  clear hsort hs0 h0 hok hY hT h hx hX h8
  obtain ⟨P, hP⟩ : ∃ P : Ending → World → Prop, P = fun e W' => (∃ v, e = .returned v) ∧ ((∃ xs : List (Ent × Value), xs.map (·.1) = M ∧ J xs W') ∨ ∃ pre, Jx pre W') := ⟨_, rfl⟩
  have HQ1 : Hid (∀ (xs : List (Ent × Value)) (W' : World), xs.map (·.1) = M → J xs W' → P (.returned (.tuple #[])) W') := by
    rw [hP]; exact fun xs W' h1 h2 => ⟨⟨_, rfl⟩, .inl ⟨xs, h1, h2⟩⟩
  have HQ2 : Hid (∀ (xs : List (Ent × Value)) (W' : World), Jx xs W' → P (.returned (.tuple #[])) W') := by
    rw [hP]; exact fun xs W' h2 => ⟨⟨_, rfl⟩, .inr ⟨xs, h2⟩⟩
  rw [← hP]
  clear hP
  obtain ⟨L, hL⟩ : ∃ L, L = M.length := ⟨_, rfl⟩
  rw [← hL] at HSo
  refine callsIn_of_wp Try.func36 rfl trivial ?_ rfl
  simp only [Try.ntmps36, List.size_toArray, List.length_cons, List.length_nil, Nat.reduceAdd, Nat.reduceSub, Array.replicate_succ, Array.replicate_zero, List.push_toArray, List.append_toArray, List.nil_append, List.cons_append]
  have HHL := Lib.hid hL
  have HHF := Lib.hid hF
  have hL4 : L ≤ 4096 := by have := HOK.out.len; omega
  clear hL hF hW hW0
  gi_wp2_with fail
  refine ⟨trivial, (callsIn_wide.2 (hKe.out _)).mono ?_⟩
  rintro e w' ⟨rfl, rfl⟩
  gi_wp2_with fail
  refine ⟨trivial, (callsIn_wide.2 HSo.out).mono ?_⟩
  rintro e W2 ⟨v, rfl, hrow, hb2⟩
  have hB2 : Below W.heap.size W W2 := hb2
  obtain ⟨Av, cv, rfl, hcells⟩ : ∃ Av cv, v = .slice Av L cv ∧ ∀ j, j < L → ∃ g, Av = some ⟨g, 0, none⟩ ∧ (∃ cur f, W2.heap[g]? = some (.cells cur 3 f)) ∧ W2.cell? ⟨g, j, none⟩ = some (.int .i64 ((M.getD j (0, [])).1 : Int)) := by
    rcases hrow.2 with ⟨rfl, h0⟩ | ⟨g, cap, cur, rfl, _, hg, _⟩
    · rw [h0]; exact ⟨none, 0, rfl, fun j hj => absurd hj (Nat.not_lt_zero _)⟩
    · refine ⟨_, cap, rfl, fun j hj => ⟨g, rfl, ⟨_, _, hg⟩, ?_⟩⟩
      have := hrow.cells rfl j (plV (M.getD j (0, []))) (by
        have : j < M.length := by rw [← HHL.out]; exact hj
        simp [List.getD, this])
      have e : (⟨g, 0, none⟩ : Addr).add j = ⟨g, j, none⟩ := by unfold Addr.add; split <;> simp_all
      rw [e] at this
      exact this
  have HC := Lib.hid hcells
  have HK2 : Hid (KpF F X W2 W2) := KpF.refl _ _ _
  have HJ2 : Hid (J [] W2) := HT'.out _ _ _ H0.out (Kept.of_below hB2 (Nat.le_refl _))
  have HW2F : Hid (F ≤ W2.heap.size) := Nat.le_trans hWF hB2.size
  have HW2 : Hid (∀ k, k < F → ¬ X k → W2.heap[k]? = w.heap[k]?) := fun k hk hx => (hB2.block k (by omega)).trans (HW0.out k hk hx)
  clear hrow hb2 hB2 hcells
  gi_wp2
  gi_loopw [14] (fun i wr => ∃ (j : Nat) (pre : List (Ent × Value)), j ≤ L ∧ i = .int .i64 (j : Int) ∧ pre.map (·.1) = M.take j ∧ J pre wr ∧ KpF F X W2 wr) (fun i _ => L - (intOf i).toNat)
  case atStart => exact ⟨0, [], by omega, rfl, by simp, HJ2.out, HK2.out⟩
  case round =>
    obtain ⟨j, pre, hj, rfl, hpre, hJ, hK⟩ := hrel
    rename World => V
    have HP := Lib.hid hpre
    have HJ := Lib.hid hJ
    have HK := Lib.hid hK
    clear hpre hJ hK
    by_cases h5 : j < L
    · have hjM : j < M.length := by rw [← HHL.out]; exact h5
      obtain ⟨g, rfl, ⟨cur, f, hg⟩, hgc⟩ := HC.out j h5
      have hgV := HK.out.2.2 g cur f hg
      have e0 : V.cell? ⟨g, j, none⟩ = some (.int .i64 ((M.getD j (0, [])).1 : Int)) := (World.cell?_of_block hgV).trans hgc
      have hVw : ∀ k, k < F → ¬ X k → V.heap[k]? = w.heap[k]? := fun k hk hx => (HK.out.2.1 k hk hx).trans (HW2.out k hk hx)
      obtain ⟨hsV, p0, p1⟩ := HS.out V hVw
      have hmem : M.getD j (0, []) ∈ M := by simp [List.getD, hjM]
      have hE := HOK.out.each _ hmem
      have hpl : (M.getD j (0, [])).1 < 1000000000000 := by have := hE.k; omega
      obtain ⟨vv, hlk, hvv⟩ := hsV.look hpl
      have hlk2 := (hlk V (fun _ _ => rfl)).2
      rw [getM_of HOK.out.srt hmem] at hvv
      have HCl := Lib.hid (clone8 hvv (by have := hE.len; omega))
      have HS2 : Hid (M.take (j + 1) = M.take j ++ [M.getD j (0, [])]) := take_snoc' hjM
      have HPre : Hid (∀ (v9 : Value) (V9 : World), R8 V9 v9 (M.getD j (0, [])).2 → (∀ k, v9.ownBlock = some k → V.heap.size ≤ k) → Kept (fun _ => False) V V9 → PpR M pre (M.getD j (0, []), v9) V V9) := by
        intro v9 V9 h1 h2 h3
        refine ⟨?_, h1, h2, h3⟩
        show List.map (fun x => x.fst) pre ++ [M.getD j (0, [])] <+: M
        rw [HP.out, ← HS2.out]
        exact List.take_prefix _ _
      have hlow : bits BinOp.and IntKind.i64 ((M.getD j (0, [])).1 : Int) 65535 = (((M.getD j (0, [])).1 % 65536 : Nat) : Int) := low_16 (by have := hE.k; omega)
      have HVF : Hid (F ≤ V.heap.size) := Nat.le_trans HW2F.out HK.out.1
      generalize M.getD j (0, []) = en at *
      clear hsV hvv hlk hmem hE hpl hgc hg hgV hVw
      gi_wp2_with fail
      refine ⟨trivial, (callsIn_wide.2 HCl.out).mono ?_⟩
      rintro e V9 ⟨v9, rfl, hrow9, hb9⟩
      have hY := HY'.out pre (en, v9) V V9 HJ.out (HT'.out _ _ _ HJ.out (Kept.of_below hb9 (Nat.le_refl _))) (HPre.out v9 V9 (R8.of hrow9) (fun k hk => (hrow9.lt k hk).1) (Kept.of_below hb9 (Nat.le_refl _)))
      obtain ⟨fn, tmps, assign, body, hrun, hR⟩ := hY
      obtain ⟨A9, cap9, rfl, _⟩ := row_bytes hrow9
      dsimp only [enR] at hrun
      rw [show ((en.1 / 65536 : Nat) : Int) = (en.1 : Int) / 65536 by omega, show ((en.1 % 65536 : Nat) : Int) = (en.1 : Int) % 65536 by omega] at hrun
      have HRR := Lib.hid hR
      have HK9 : Hid (KpF F X W2 V9) := HK.out.trans (KpF.of_kept (Kept.of_below (X := fun _ => False) hb9 (Nat.le_refl _)) HVF.out (fun _ h => h.elim) (fun _ h => h.elim))
      clear hR hrow9 hb9 HCl HPre
      generalize en.2.length = L9 at *
      generalize hpre2 : pre ++ [(en, Value.slice A9 L9 cap9)] = pre2 at *
      have HM2 : Hid (pre2.map (·.1) = M.take (j + 1)) := by
        rw [Hid, HS2.out, ← HP.out, ← hpre2]; simp
      clear hpre2
      gi_wp2
      refine HRR.out.mono ?_
      rintro e W' (⟨rfl, hJ', hK'⟩ | ⟨rfl, hJx⟩)
      · have HJ2 := Lib.hid hJ'
        have HK2 := Lib.hid (HK9.out.trans hK')
        clear hJ' hK' hrun HRR
        gi_wp2
        go_roundw
        case rel => exact ⟨j + 1, pre2, by omega, by go_num, HM2.out, HJ2.out, HK2.out⟩
        case measure => simp [intOf]; omega
      · have HF := Lib.hid (HQ2.out pre2 W' hJx)
        clear hJx hrun HRR
        gi_wp2
        exact bodyPost_ret (results_none rfl _ _ _) rfl HF.out
    · obtain rfl : j = L := by omega
      have HF := Lib.hid (HQ1.out pre V (by rw [HP.out, List.take_of_length_le (by rw [← HHL.out]; exact Nat.le_refl _)]) HJ.out)
      gi_wp2
      exact bodyPost_end (results_none rfl _ _ _) rfl HF.out
/-- A shelf, or none. -/
def ShP (w : World) (p : Option Addr) (M : List Ent) : Prop := (p = none ∧ M = []) ∨ ∃ b mo N, p = some ⟨b, 0, none⟩ ∧ ShAt w b mo N M
theorem ShP.of {w : World} {b N : Nat} {mo : Option Nat} {M : List Ent} (h : ShAt w b mo N M) : ShP w (some ⟨b, 0, none⟩) M := .inr ⟨b, mo, N, rfl, h⟩
theorem ShP.below {w w' : World} {p : Option Addr} {M : List Ent} (h : ShP w p M) (hb : Below w.heap.size w w') : ShP w' p M := by
  rcases h with ⟨h1, h2⟩ | ⟨b, mo, N, h1, h2⟩
  · exact .inl ⟨h1, h2⟩
  · exact .inr ⟨b, mo, N, h1, h2.below hb⟩
theorem ShP.ok {w : World} {p : Option Addr} {M : List Ent} (h : ShP w p M) : Ok M := by
  rcases h with ⟨_, rfl⟩ | ⟨b, mo, N, _, h2⟩
  · exact Ok.nil
  · exact h2.ok
set_option maxHeartbeats 1000000 in
theorem told_nil (n : Nat) {w : World} {bx : Nat} {X : Nat → Prop} (hx : w.heap[bx]? = some (.cells #[.pointer none] 24 (0, 0))) :
    TellsW n Try.prog 36 #[.pointer (some ⟨bx, 0, none⟩)] enR (Kept (fun _ => False)) (KpF w.heap.size X) (fun xs => xs.map (·.1) = []) (PpR []) w := by
  intro y J Jx W hW hT hY h0
  have e0 : W.cell? ⟨bx, 0, none⟩ = some (.pointer none) := by rw [blk_cell ((hW.block bx (blk_lt hx)).trans hx)]; rfl
  have HF : Hid (∃ xs : List (Ent × Value), xs.map (·.1) = [] ∧ J xs W) := ⟨[], rfl, h0⟩
  clear hT hY h0 hx hW
  refine callsIn_of_wp Try.func36 rfl trivial ?_ rfl
  simp only [Try.ntmps36, List.size_toArray, List.length_cons, List.length_nil, Nat.reduceAdd, Nat.reduceSub, Array.replicate_succ, Array.replicate_zero, List.push_toArray, List.append_toArray, List.nil_append, List.cons_append]
  gi_wp2
  exact bodyPost_ret (results_none rfl _ _ _) rfl ⟨⟨_, rfl⟩, .inl HF.out⟩
theorem told_p (n : Nat) (hn : 1 ≤ n) {w0 w : World} {p : Option Addr} {bx : Nat} {M : List Ent} {X : Nat → Prop} (h : ShP w0 p M) (hb : Below w0.heap.size w0 w) (hx : w.heap[bx]? = some (.cells #[.pointer p] 24 (0, 0)))
    (hX : ∀ k, X k → w0.heap.size ≤ k ∧ k ≠ bx) (h8 : No8 X w) :
    TellsW n Try.prog 36 #[.pointer (some ⟨bx, 0, none⟩)] enR (Kept (fun _ => False)) (KpF w.heap.size X) (fun xs => xs.map (·.1) = M) (PpR M) w := by
  rcases h with ⟨rfl, rfl⟩ | ⟨b, mo, N, rfl, h2⟩
  · exact told_nil n hx
  · refine told_w n hn (h2.below hb) hx (fun k hk e => ?_) h8
    have := hX k e
    rcases hk with hk | hk
    · have := h2.mlt hk; omega
    · omega
end Go.Proofs.Ytgciibcngmimkaa
