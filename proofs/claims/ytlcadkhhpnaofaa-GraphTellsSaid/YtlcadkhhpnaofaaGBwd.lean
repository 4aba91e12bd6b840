/-
  The library's Backward: its iterator.
-/
import Derived.Test.YtlcadkhhpnaofaaGW11
namespace Go.Proofs.Ytlcadkhhpnaofaa
set_option maxRecDepth 100000
open Go Go.RowKit Gq
attribute [local go_sem] Oper.semAt_some

def bkw (l : List Nat) : List (Nat × Nat) := (List.range l.length).map fun j => (l.length - 1 - j, l.getD (l.length - 1 - j) 0)
theorem bkw_length (l : List Nat) : (bkw l).length = l.length := by simp [bkw]
theorem bkw_succ {l : List Nat} {m : Nat} (h : m < l.length) : (bkw l).take (l.length - m) = (bkw l).take (l.length - (m + 1)) ++ [(m, l.getD m 0)] := by
  have e : l.length - m = (l.length - (m + 1)) + 1 := by omega
  have hlt : l.length - (m + 1) < (bkw l).length := by rw [bkw_length]; omega
  rw [e, List.take_succ_eq_append_getElem hlt]
  congr 1
  have e2 : l.length - 1 - (l.length - (m + 1)) = m := by omega
  simp [bkw, e2]
theorem bkw_snd (l : List Nat) : (bkw l).map (·.2) = l.reverse := by
  apply List.ext_getElem
  · simp [bkw]
  · intro i h1 h2
    have hi : i < l.length := by simpa [bkw] using h1
    simp [bkw, List.getD, show l.length - 1 - i < l.length by omega]

theorem back_it_any (w : World) (P : Option Addr) (n c : Nat) :
    Calls Try.prog 34 #[.slice P n c] w fun e w' => e = .returned (.func (.func 47) #[] #[.pointer (some ⟨w.heap.size, 0, none⟩)]) ∧ w' = w.alloc (.cells #[.slice P n c] 34) := by
  go_enter Try.func34, Try.ntmps34
  go_wp2
  go_ret
  exact ⟨rfl, rfl⟩

set_option maxHeartbeats 2000000 in
theorem back_tells (n : Nat) (hn : 1 ≤ n) {w : World} {pb : Nat} {v : Value} {l : List Nat} (h : RowAt w v l) (hl : l.length ≤ 100000) (hb : w.heap[pb]? = some (.cells #[v] 34 (0, 0))) :
    Tells n Try.prog 47 #[.pointer (some ⟨pb, 0, none⟩)] (fun x : Nat × Nat => #[.int .i64 (x.1 : Int), .int .i64 (x.2 : Int)])
      (fun k => k = pb ∨ v.ownBlock = some k) (fun _ => False) (fun _ _ => True) (bkw l) w := by
  intro lp J W hW hJ hY h0
  have hbW : W.heap[pb]? = some (.cells #[v] 34 (0, 0)) := (hW.block pb (blk_lt hb)).trans hb
  have hr : RowAt W v l := h.still (Kept.of_below hW (Nat.le_refl _))
  obtain ⟨P, cap, rfl, hcap, hcap2, hnil, hc⟩ := hr.form
  have HC : Hid (∀ j, j < l.length → ∃ g, P = some ⟨g, 0, none⟩ ∧ ∀ wr : World, (∀ k, (k = pb ∨ (Value.slice P l.length cap).ownBlock = some k) → wr.heap[k]? = W.heap[k]?) → wr.cell? ⟨g, j, none⟩ = some (.int .i64 ((l.getD j 0 : Nat) : Int))) := by
    intro j hj
    obtain ⟨g, rfl, h1, _⟩ := hc j hj
    exact ⟨g, rfl, fun wr hx => (World.cell?_of_block (hx g (.inr rfl))).trans h1⟩
  have HP : Hid (∀ wr : World, (∀ k, (k = pb ∨ (Value.slice P l.length cap).ownBlock = some k) → wr.heap[k]? = W.heap[k]?) → wr.cell? ⟨pb, 0, none⟩ = some (.slice P l.length cap)) := by
    intro wr hx
    rw [blk_cell ((hx pb (.inl rfl)).trans hbW)]; rfl
  have HLt : Hid (∀ k, (k = pb ∨ (Value.slice P l.length cap).ownBlock = some k) → k < W.heap.size) := by
    rintro k (rfl | hk)
    · exact blk_lt hbW
    · exact hr.lt hk
  have HY := Lib.hid hY
  have c0 := HP.out W (fun _ _ => rfl)
  clear hY hJ hc hnil hr hbW hb h hW hcap2
  obtain ⟨X, hX⟩ : ∃ X : Nat → Prop, X = fun k => k = pb ∨ (Value.slice P l.length cap).ownBlock = some k := ⟨_, rfl⟩
  have HX := Lib.hid hX
  clear hX
  obtain ⟨L, hL⟩ : ∃ L, L = l.length := ⟨_, rfl⟩
  have HL := Lib.hid hL
  rw [← hL] at c0 hl hcap
  clear hL
  refine callsIn_of_wp Try.func47 rfl trivial ?_ rfl
  simp only [Try.ntmps47, List.size_toArray, List.length_cons, List.length_nil, Nat.reduceAdd, Nat.reduceSub, Array.replicate_succ, Array.replicate_zero, List.push_toArray, List.append_toArray, List.nil_append, List.cons_append]
  gi_wp2
  clear c0
  gi_loopw [3] (fun u wr => ∃ m : Nat, m ≤ L ∧ u = .int .i64 ((m : Int) - 1) ∧ J (fun _ => False) ((bkw l).take (L - m)) wr ∧ (∀ k, X k → wr.heap[k]? = W.heap[k]?) ∧ W.heap.size ≤ wr.heap.size) (fun u _ => (intOf u + 1).toNat)
  case atStart =>
    refine ⟨L, Nat.le_refl _, rfl, ?_, fun _ _ => rfl, Nat.le_refl _⟩
    simpa using h0
  case round =>
    obtain ⟨m, hm, rfl, hj, hx, hs⟩ := hrel
    have HJk := Lib.hid hj
    have HXk := Lib.hid hx
    clear hj hx h0
    cases m with
    | zero =>
      have HQ : Hid (J (fun _ => False) (bkw l) wr) := by
        have e : (bkw l).take (L - 0) = bkw l := List.take_of_length_le (by rw [bkw_length, HL.out]; exact Nat.le_refl _)
        rw [← e]; exact HJk.out
      clear HJk
      gi_wp2
      go_end0
      exact ⟨⟨_, rfl⟩, fun _ => False, trivial, HQ.out⟩
    | succ m =>
      have hml : m < l.length := by rw [← HL.out]; omega
      have hbs := bkw_succ hml
      have hxX : ∀ k, (k = pb ∨ (Value.slice P l.length cap).ownBlock = some k) → wr.heap[k]? = W.heap[k]? := fun k hk => HXk.out k (by rw [HX.out]; exact hk)
      obtain ⟨g, rfl, hcg⟩ := HC.out m hml
      have f1 := hcg wr hxX
      have f2 := HP.out wr hxX
      rw [← HL.out] at f2
      have hpre : (bkw l).take (L - (m + 1)) ++ [(m, l.getD m 0)] <+: bkw l := by
        rw [HL.out, ← hbs]
        exact List.take_prefix _ _
      obtain ⟨fn, tmps, assign, body, hy, hR⟩ := HY.out (fun _ => False) _ (m, l.getD m 0) wr HJk.out hpre
      rw [HL.out, ← hbs] at hR
      have hmL : m < L := by omega
      clear hbs hxX hcg hpre HJk hml
      dsimp only at hy
      obtain ⟨x, hxx⟩ : ∃ x, x = l.getD m 0 := ⟨_, rfl⟩
      rw [← hxx] at f1 hy
      clear hxx
      have e1 : ((m + 1 : Nat) : Int) - 1 = (m : Int) := by omega
      rw [e1]
      gi_wp2
      refine hR.mono ?_
      rintro e W' ⟨rfl, hJ', hk'⟩
      have HJ' := Lib.hid hJ'
      have HXX : Hid (∀ k, X k → W'.heap[k]? = W.heap[k]?) := fun k hk => (hk'.2 k (.inl (by rw [HX.out] at hk; exact hk)) (Nat.lt_of_lt_of_le (HLt.out k (by rw [HX.out] at hk; exact hk)) hs)).trans (HXk.out k hk)
      have hs' : W.heap.size ≤ W'.heap.size := Nat.le_trans hs hk'.1
      clear hJ' hk' hy hR f1 f2
      gi_wp2
      go_roundw
      case rel => exact ⟨m, by omega, rfl, by rw [HL.out]; exact HJ'.out, HXX.out, hs'⟩
      case measure => simp [intOf]
end Go.Proofs.Ytlcadkhhpnaofaa
