/-
  The document's pile: Least; two lists compared.
-/
import Derived.Test.YtdhpphkkpjldfabPRef3
import Derived.Test.YtdhpphkkpjldfabPLe
namespace Go.Proofs.Ytdhpphkkpjldfab
set_option maxRecDepth 100000
open Go Go.RowKit Pq

theorem ItemsAt.drewN {w : World} {A : Option Addr} {l : List It} (h : ItemsAt w A l) (m : Nat) : ItemsAt (w.drewN m) A l := h

set_option maxHeartbeats 1000000 in
theorem same_any {w : World} {A1 A2 : Option Addr} {l : List It} {c1 c2 : Nat} (h1 : ItemsAt w A1 l) (h2 : ItemsAt w A2 l) (hn : l.length ≤ 100000) :
    Calls Try.prog 15 #[.slice A1 l.length c1, .slice A2 l.length c2] w fun e w' => e = .returned (.bool true) ∧ ∃ m, w' = w.drewN m := by
  have H1 := Lib.hid h1
  have H2 := Lib.hid h2
  clear h1 h2
  have hne : ((l.length : Int) != (l.length : Int)) = false := by simp
  generalize hl : l.length = n at *
  have HL := Lib.hid hl
  clear hl
  go_enter Try.func15, Try.ntmps15
  go_wp2
  go_loopw [13] (fun v wr => ∃ (i m : Nat), i ≤ n ∧ v = .int .i64 (i : Int) ∧ wr = w.drewN m) (fun v _ => n - (intOf v).toNat)
  case atStart => exact ⟨0, 0, by omega, rfl, rfl⟩
  case round =>
    obtain ⟨i, m, hi, rfl, rfl⟩ := hrel
    by_cases hlt : i < n
    · obtain ⟨a1, rfl, _, p0, p1, p2⟩ := H1.out i (by rw [HL.out]; exact hlt)
      obtain ⟨a2, rfl, _, q0, q1, q2⟩ := H2.out i (by rw [HL.out]; exact hlt)
      generalize at_ l i = x at *
      obtain ⟨x0, x1, x2⟩ := x
      simp only at *
      go_wp2
      go_quiet (fail)
      go_wp2
      exact ⟨⟨i + 1, m + nq, by omega, by go_num, rfl⟩, by simp [intOf]; omega⟩
    · go_wp2
      go_ret
      exact ⟨rfl, m, rfl⟩

def RLeast (w : World) (b : Nat) (A0 : Option Addr) (s : List It) (m : Nat) (e : Ending) (w' : World) : Prop :=
  ∃ v A, e = .returned v ∧ w'.ownsRow w.heap.size 37 3 v (s.take m).length (csL (s.take m)) ∧ RefAt w' b A (s.drop m) ∧ Kept (fun k => k = b) w w' ∧ (∀ a, A = some a → ∃ a0, A0 = some a0 ∧ a.block = a0.block ∧ a.block < w.heap.size)

def RLRel (w : World) (b : Nat) (A0 : Option Addr) (s : List It) (m : Int) (v5 v6 : Value) (wr : World) : Prop :=
  ∃ (k : Nat) (A : Option Addr), k ≤ s.length ∧ k ≤ m.toNat ∧ v6 = .int .i64 (k : Int) ∧ wr.ownsRow w.heap.size 37 3 v5 k (csL (s.take k)) ∧ RefAt wr b A (s.drop k) ∧ Kept (fun k => k = b) w wr ∧ (∀ a, A = some a → ∃ a0, A0 = some a0 ∧ a.block = a0.block ∧ a.block < w.heap.size)

theorem rleast_step {w wr W2 : World} {b k cap : Nat} {s : List It} {m : Int} {v5 v' : Value} {a : Addr} {x : It} {rest : List It} {A0 A' : Option Addr} {cap' : Nat} {o : Obj} (hb : b < w.heap.size) (hk : k < s.length) (hkm : k + 1 ≤ m.toNat) (hd : s.drop k = x :: rest)
    (ho : wr.ownsRow w.heap.size 37 3 v5 k (csL (s.take k))) (hr : RefAt wr b (some a) (x :: rest)) (hK : Kept (fun k => k = b) w wr) (ha : ∃ a0, A0 = some a0 ∧ a.block = a0.block ∧ a.block < w.heap.size)
    (hc : wr.cell? ⟨b, 0, none⟩ = some (.slice (some a) (rest.length + 1) cap))
    (hg : (wr.alloc o).grownBy W2 v5.ownBlock) (ho2 : W2.ownsRow w.heap.size 37 3 v' (k + 1) (csL (s.take k) ++ x.cs))
    (hA : (A' = some (a.add 3) ∧ cap' = cap - 1 ∧ rest.length ≤ cap') ∨ (A' = some a ∧ rest = [])) :
    W2.cell? ⟨b, 0, none⟩ = some (.slice (some a) (rest.length + 1) cap) ∧ W2.frozen? ⟨b, 0, none⟩ = false ∧ RLRel w b A0 s m v' (.int .i64 ((k : Int) + 1)) (W2.setCell ⟨b, 0, none⟩ (.slice A' rest.length cap')) := by
  have hv : ∀ i, some i = v5.ownBlock → w.heap.size ≤ i := fun i e => (ho.lt i e.symm).1
  have hkk : Kept (fun i => some i = v5.ownBlock) wr W2 := ((Kept.refl _ wr).alloc o).grown hg (fun i e => .inl e.symm)
  have hr2 := hr.kept hkk (fun e => by have := hv b e; omega) (fun a' e e' => by cases e; have := hv _ e'; omega)
  have hc2 := hkk.cell hc (fun e => by have := hv b e; omega)
  have hset : Kept (fun i => i = b) W2 (W2.setCell ⟨b, 0, none⟩ (.slice A' rest.length cap')) := (Kept.refl (fun i => i = b) W2).setCell (p := ⟨b, 0, none⟩) (.inl rfl) _
  have hdr : s.drop (k + 1) = rest := by
    have := congrArg List.tail hd
    simpa using this
  have htk : s.take (k + 1) = s.take k ++ [x] := by
    rw [take_snoc hk]
    congr 2
    have := congrArg (fun l => at_ l 0) hd
    simp only [at_cons_zero] at this
    rw [at_drop] at this
    simpa using this
  have hcs : csL (s.take (k + 1)) = csL (s.take k) ++ x.cs := by rw [htk, csL_append]; simp [csL]
  have hne : a.block ≠ b := (hr.far a rfl).1
  refine ⟨hc2, hr2.froz, k + 1, A', by omega, hkm, by go_num, ?_, ?_, ?_, ?_⟩
  · rw [hcs]
    exact hset.row ho2 (fun g hg' e => by have := (ho2.lt g hg').1; omega)
  · rw [hdr]
    have hit := hr2.items
    have hsz : a.block < W2.heap.size := Nat.lt_of_lt_of_le (hr.far a rfl).2 hkk.size
    refine ⟨⟨cap', World.cell?_setCell_same _ _ _ (by rw [hc2]), ?_, fun e => ?_⟩, ?_, ?_, ?_⟩
    · rcases hA with ⟨_, h2, h3⟩ | ⟨_, rfl⟩
      · exact h3
      · simp
    · rcases hA with ⟨h1, _⟩ | ⟨h1, _⟩ <;> (rw [h1] at e; cases e)
    · rw [World.frozen?_setCell]; exact hr2.froz
    · rcases hA with ⟨rfl, _, _⟩ | ⟨_, rfl⟩
      · intro i hi
        obtain ⟨a', e, h0, h1, h2, h3⟩ := hit (i + 1) (by simpa using hi)
        cases e
        rw [at_cons_succ] at h1 h2 h3
        have e3 : (a.add 3).add (i * 3) = a.add ((i + 1) * 3) := by rw [add_add']; congr 1; omega
        refine ⟨a.add 3, rfl, by rw [add_block]; simpa [World.setCell] using hsz, ?_, ?_, ?_⟩
        · rw [e3]; exact hset.cell h1 (by rw [add_block]; exact hne)
        · rw [e3]; exact hset.cell h2 (by simp only [add_block]; exact hne)
        · rw [e3]; exact hset.cell h3 (by simp only [add_block]; exact hne)
      · intro i hi; simp at hi
    · intro a' e
      rcases hA with ⟨h1, _⟩ | ⟨h1, _⟩ <;> (rw [h1] at e; cases e)
      · rw [add_block]; exact ⟨hne, by simpa [World.setCell] using hsz⟩
      · exact ⟨hne, by simpa [World.setCell] using hsz⟩
  · exact (hK.trans (hkk.mono (Y := fun i => i = b ∨ some i = v5.ownBlock) (fun _ _ e => .inr e)) (fun i hi e => by rcases e with e | e; exact e; have := hv i e; omega)).trans hset (fun _ _ e => e)
  · intro a' e
    rcases hA with ⟨h1, _⟩ | ⟨h1, _⟩ <;> (rw [h1] at e; cases e)
    · obtain ⟨a0, h1, h2, h3⟩ := ha
      exact ⟨a0, h1, by rw [add_block]; exact h2, by rw [add_block]; exact h3⟩
    · exact ha

set_option maxHeartbeats 2000000 in
theorem rleast_any {w : World} {b : Nat} {A : Option Addr} {s : List It} (h : RefAt w b A s) (hl : s.length ≤ 9999) (m : Int) :
    Calls Try.prog 13 #[.pointer (some ⟨b, 0, none⟩), .int .i64 m] w (RLeast w b A s m.toNat) := by
  obtain ⟨i0, hi, hz0, hz1, hz2⟩ := info_parts Try.infoRItem
  have hbl := h.lt
  have HS : Hid (RLRel w b A s m (.slice none 0 0) (.int .i64 0) w) := ⟨0, A, Nat.zero_le _, Nat.zero_le _, rfl, World.ownsRow_nil _ _ _ _, h, Kept.refl _ _, fun a e => ⟨a, e, rfl, (h.far a e).2⟩⟩
  clear h
  go_enter Try.func13, Try.ntmps13
  go_wp2
  go_loopw [5, 6] (fun v5 v6 wr => RLRel w b A s m v5 v6 wr) (fun _ v6 _ => s.length - (intOf v6).toNat)
  case atStart => exact HS.out
  case round =>
    obtain ⟨k, A1, hk, hkm, rfl, ho, hr, hK, hA⟩ := hrel
    have HO := Lib.hid ho
    have HR := Lib.hid hr
    have HK := Lib.hid hK
    have HA := Lib.hid hA
    obtain ⟨cap, hc, hcap, hnil⟩ := hr.cell
    have hkb : k ≤ 9999 := by omega
    have HL := Lib.hid hl
    have hfin : ∀ v, (m.toNat = k ∨ s.drop k = []) → v = u5 → RLeast w b A s m.toNat (.returned v) wr := by
      rintro v hv rfl
      have e1 : s.take m.toNat = s.take k := by
        rcases hv with hv | hv
        · rw [hv]
        · have hlk : s.length ≤ k := by simpa using hv
          rw [List.take_of_length_le hlk, List.take_of_length_le (by omega)]
      have e2 : s.drop m.toNat = s.drop k := by
        rcases hv with hv | hv
        · rw [hv]
        · have hlk : s.length ≤ k := by simpa using hv
          rw [List.drop_of_length_le hlk, List.drop_of_length_le (by omega)]
      refine ⟨v, A1, rfl, ?_, ?_, HK.out, HA.out⟩
      · rw [e1, List.length_take, Nat.min_eq_left hk]; exact HO.out
      · rw [e2]; exact HR.out
    have HF := Lib.hid hfin
    clear ho hr hK hA hl HS hfin
    by_cases hlt : (k : Int) < m
    · cases hd : s.drop k with
      | nil =>
        have HD := Lib.hid hd
        rw [hd] at hc
        simp only [List.length_nil] at hc
        clear hd hcap hnil
        go_wp2
        go_ret
        exact HF.out _ (.inr HD.out) rfl
      | cons x rest =>
        have hk1 : k < s.length := by
          have := congrArg List.length hd
          simp at this
          omega
        rw [hd] at hc hcap
        have HD := Lib.hid hd
        simp only [List.length_cons] at hc hcap
        have HRr : Hid (RefAt wr b A1 (x :: rest)) := by have := HR.out; rw [HD.out] at this; exact this
        obtain ⟨a, rfl, _, a0, a1, a2⟩ := HRr.out.items 0 (by simp)
        have e0 : a.add (0 * 3) = a := by simp [Addr.add]
        rw [e0] at a0 a1 a2
        simp only [at_cons_zero] at a0 a1 a2
        have hrl : rest.length ≤ 9999 := by
          have := congrArg List.length hd
          have h5 := HL.out
          simp at this
          omega
        clear hd e0 hnil
        have hkm1 : k + 1 ≤ m.toNat := by omega
        have hkb' : k + 1 ≤ 10000 := by omega
        by_cases hc1 : cap = 1
        · subst hc1
          obtain rfl : rest = [] := List.eq_nil_of_length_eq_zero (by omega)
          simp only [List.length_nil, Nat.zero_add] at hc
          go_wp2_with (at_builtin; refine wpList_append_own _ rfl (.tmp 20) (.tmp 27) 28 rfl w.heap.size 37 i0 (.agg #[.int .i64 0, .int .i64 0, .int .i64 0]) 3 24 Try.underlying28 hi hz0 hz1 hz2 rfl (by decide) _ _ _ rfl (HO.out.alloc _) ⟨wr.heap.size, 0, none⟩ 1 1 x.cs rfl rfl (new_cells _ x rfl) ?qb1 ?qb2 ?qb3 ?qb4 ?_)
          case qb1 => intro u hu; simp [It.cs] at hu; rcases hu with rfl | rfl | rfl <;> rfl
          case qb2 => unfold maxLen; omega
          case qb3 => omega
          case qb4 => have := HK.out.size; simp; omega
          intro v2 W2 ho2 hg2 _
          obtain ⟨c2, f2, hrel2⟩ := rleast_step (m := m) (A' := some a) (cap' := 0) hbl hk1 hkm1 HD.out HO.out HRr.out HK.out (HA.out a rfl) hc hg2 ho2 (.inr ⟨rfl, rfl⟩)
          simp only [List.length_nil, Nat.zero_add] at c2 hrel2
          have HZ := Lib.hid hrel2
          clear hrel2 ho2 hg2 hc a0 a1 a2
          go_wp2
          exact ⟨HZ.out, by simp [intOf]; omega⟩
        · go_wp2_with (at_builtin; refine wpList_append_own _ rfl (.tmp 20) (.tmp 27) 28 rfl w.heap.size 37 i0 (.agg #[.int .i64 0, .int .i64 0, .int .i64 0]) 3 24 Try.underlying28 hi hz0 hz1 hz2 rfl (by decide) _ _ _ rfl (HO.out.alloc _) ⟨wr.heap.size, 0, none⟩ 1 1 x.cs rfl rfl (new_cells _ x rfl) ?qb1 ?qb2 ?qb3 ?qb4 ?_)
          case qb1 => intro u hu; simp [It.cs] at hu; rcases hu with rfl | rfl | rfl <;> rfl
          case qb2 => unfold maxLen; omega
          case qb3 => omega
          case qb4 => have := HK.out.size; simp; omega
          intro v2 W2 ho2 hg2 _
          obtain ⟨c2, f2, hrel2⟩ := rleast_step (m := m) (A' := some (a.add 3)) (cap' := cap - 1) hbl hk1 hkm1 HD.out HO.out HRr.out HK.out (HA.out a rfl) hc hg2 ho2 (.inl ⟨rfl, rfl, by omega⟩)
          have HZ := Lib.hid hrel2
          clear hrel2 ho2 hg2 hc a0 a1 a2
          go_wp2
          exact ⟨HZ.out, by simp [intOf]; omega⟩
    · have hmk : m.toNat = k := by omega
      have HMk := Lib.hid hmk
      clear hmk
      go_wp2
      go_ret
      exact HF.out _ (.inl HMk.out) rfl
end Go.Proofs.Ytdhpphkkpjldfab
