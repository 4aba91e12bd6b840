/-
  The document's bag: Spoil.
-/
import Derived.Test.YtinihggcibghaaaBl4
import Derived.Test.YtinihggcibghaaaB8
namespace Go.Proofs.Ytinihggcibghaaa
set_option maxRecDepth 100000
set_option linter.unusedSimpArgs false
open Go Go.RowKit Bg
attribute [local go_sem] Oper.semAt_some

/-- A packet of a list is laid anew. -/
theorem Own.setd {w : World} {S : Nat → Prop} {o g n cap i B : Nat} {E : List Ent} (h : Own w S o (.slice (some ⟨g, 0, none⟩) n cap) E) (hi : i < E.length) (hlt : ∀ k, S k → k < B) (ho : o < B) {e' : Ent} (hr : w.ownsRow B 5 1 (Ent.v e') e'.1.d.length (e'.1.d.map byV))
    (h1 : e'.1.n = (E.getD i noE).1.n) (h2 : e'.1.f = (E.getD i noE).1.f) (h3 : e'.1.t = (E.getD i noE).1.t) :
    Own ((w.setCell ⟨g, i * 5 + 3, none⟩ (Ent.v e')).setCell ⟨g, i * 5 + 4, none⟩ (.bool e'.1.s)) (fun k => S k ∨ B ≤ k ∧ k < w.heap.size) o (.slice (some ⟨g, 0, none⟩) n cap) (E.set i e') := by
  have hn : n = E.length := by
    rcases h.row.2 with ⟨h1, _⟩ | ⟨_, _, _, h1, _⟩
    · cases h1
    · cases h1; rfl
  subst hn
  have hgS := (h.vo g rfl).1
  have hgB := hlt g hgS
  have kk : Kept (fun k => k = g) w ((w.setCell ⟨g, i * 5 + 3, none⟩ (Ent.v e')).setCell ⟨g, i * 5 + 4, none⟩ (.bool e'.1.s)) := ((Kept.refl (fun k => k = g) w).setCell (p := ⟨g, i * 5 + 3, none⟩) (.inl rfl) _).setCell (p := ⟨g, i * 5 + 4, none⟩) (.inl rfl) _
  have hmem : ∀ x ∈ E.set i e', x = e' ∨ x ∈ E := fun x hx => (List.mem_or_eq_of_mem_set hx).symm
  have hE : ∀ x ∈ E, ∀ q, (Ent.v x).ownBlock = some q → q < B := fun x hx q hq => hlt q (h.eo x hx q hq).1
  refine ⟨?_, ?_, fun q hq => ⟨.inl (h.vo q hq).1, (h.vo q hq).2⟩, ?_, ?_⟩
  · have r1 := (h.row.stored (i * 5 + 3) (Ent.v e')).1
    have r2 := (r1.stored (i * 5 + 4) (.bool e'.1.s)).1
    rw [List.length_set, csE_set34 hi e' h1 h2 h3]
    exact r2
  · intro x hx
    rcases hmem x hx with rfl | hx
    · exact row_base (kk.row hr (fun q hq e => by have := (hr.lt q hq).1; omega)) (Nat.zero_le _)
    · exact kk.row (h.dat x hx) (fun q hq e => (h.eo x hx q hq).2.2 (by rw [e]; rfl))
  · intro x hx q hq
    rcases hmem x hx with rfl | hx
    · have := hr.lt q hq
      exact ⟨.inr this, by omega, fun e => by have := hlt q (h.vo q e).1; omega⟩
    · obtain ⟨a, b, c⟩ := h.eo x hx q hq
      exact ⟨.inl a, b, c⟩
  · have hp := h.apart
    unfold Apart at hp ⊢
    rw [List.pairwise_iff_getElem] at hp ⊢
    intro a b ha hb hab q hq hq2
    have ha' : a < E.length := by simpa using ha
    have hb' : b < E.length := by simpa using hb
    rw [List.getElem_map, List.getElem_set] at hq hq2
    by_cases e1 : i = a
    · rw [if_pos e1] at hq
      rw [if_neg (by omega)] at hq2
      have := (hr.lt q hq).1
      have := hE _ (List.getElem_mem hb') q hq2
      omega
    · rw [if_neg e1] at hq
      by_cases e2 : i = b
      · rw [if_pos e2] at hq2
        have := (hr.lt q hq2).1
        have := hE _ (List.getElem_mem ha') q hq
        omega
      · rw [if_neg e2] at hq2
        exact hp a b (by simpa using ha') (by simpa using hb') hab q (by simpa using hq) (by simpa using hq2)

set_option maxHeartbeats 4000000 in
theorem rspoil_no {w : World} {S : Nat → Prop} {o k : Nat} {b : St} (h : BagAt 32 w S o b) (hb : Bd k b) (n a : Int) {v : Nat} (hv : v < 256) (hno : spoilV b n a v = 80) :
    Calls Try.prog 38 #[.pointer (some ⟨o, 0, none⟩), .int .i64 n, .int .i64 a, .int .u8 (v : Nat)] w fun e w' => e = .returned (.int .i64 80) ∧ w = w' := by
  have hl := hb.len
  have HP := Lib.hid (rfind_any h hl n)
  cases hn : idx b.l n with
  | none =>
    have e3 : rfV b n = -1 := by rw [rfV, hn]
    rw [e3] at HP
    clear h hb e3
    go_enter Try.func38, Try.ntmps38
    go_wp2_with fail
    refine HP.out.mono ?_
    rintro e w1 ⟨rfl, rfl⟩
    go_wp2
    go_ret
    exact ⟨rfl, rfl⟩
  | some i =>
    have hi := (idx_some hn).1
    have e3 : rfV b n = (i : Int) := by rw [rfV, hn]
    rw [e3] at HP
    have hc : canS (b.l.getD i noFl) a v = false := by
      simp only [spoilV, hn] at hno
      cases hcc : canS (b.l.getD i noFl) a v with
      | true => rw [hcc] at hno; simp at hno
      | false => rfl
    obtain ⟨g, cap, A, cap1, ⟨q1, q0⟩, ⟨_, _, _, q3, q4⟩, _⟩ := h.ent hi
    have hat := (hb.at_ hi).1
    have i0 : (0 : Int) ≤ (i : Int) := by omega
    have i1 : (i : Int) < (b.l.length : Int) := by omega
    have i2 : ¬ (i : Int) < 0 := by omega
    have HCC := Lib.hid hc
    clear h hb hn hno e3 hc
    generalize b.l.getD i noFl = x at *
    obtain ⟨n1, f1, t1, d1, s1⟩ := x
    simp only at q3 q4 hat
    generalize b.l.length = N at *
    cases s1 with
    | true =>
      clear HCC
      go_enter Try.func38, Try.ntmps38
      go_wp2_with fail
      refine HP.out.mono ?_
      rintro e w1 ⟨rfl, rfl⟩
      go_wp2
      go_ret
      exact ⟨rfl, rfl⟩
    | false =>
      by_cases ha0 : a < 0
      · clear HCC
        go_enter Try.func38, Try.ntmps38
        go_wp2_with fail
        refine HP.out.mono ?_
        rintro e w1 ⟨rfl, rfl⟩
        go_wp2
        go_ret
        exact ⟨rfl, rfl⟩
      · by_cases ha1 : (d1.length : Int) ≤ a
        · clear HCC
          generalize d1.length = DL at *
          go_enter Try.func38, Try.ntmps38
          go_wp2_with fail
          refine HP.out.mono ?_
          rintro e w1 ⟨rfl, rfl⟩
          go_wp2
          go_ret
          exact ⟨rfl, rfl⟩
        · have hv0 : v = 0 := by
            have := HCC.out
            unfold canS at this
            simp only [Bool.not_false, Bool.true_and] at this
            by_cases e : v = 0
            · exact e
            · exfalso
              have h1 : decide (0 ≤ a) = true := decide_eq_true (by omega)
              have h2 : decide (a < (d1.length : Int)) = true := decide_eq_true (by omega)
              rw [h1, h2] at this
              simp [e] at this
          subst hv0
          clear HCC
          generalize d1.length = DL at *
          go_enter Try.func38, Try.ntmps38
          go_wp2_with fail
          refine HP.out.mono ?_
          rintro e w1 ⟨rfl, rfl⟩
          go_wp2
          go_ret
          exact ⟨rfl, rfl⟩
end Go.Proofs.Ytinihggcibghaaa
