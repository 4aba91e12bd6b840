/-
  slices.Clone, slices.Index, slices.Contains at lists of ints.
-/
import Derived.Test.YtlkojoinbogkmaaDoorW4
import Derived.Lib.SliceRun
namespace Go.Proofs.YtlkojoinbogkmaaDoor
set_option maxRecDepth 100000
open Go.RowKit

set_option maxHeartbeats 800000 in
theorem clone_any {w : World} {B n : Nat} {v : Value} {xs : List Value} (h : w.ownsRow B 3 1 v n xs) (hn : n ≤ 100000) (h1 : ∀ u ∈ xs, u.oneCell' = true) :
    Calls Tryd.prog 33 #[v] w fun e w' => ∃ v', e = .returned v' ∧ w'.ownsRow w.heap.size 3 1 v' n xs ∧ Below w.heap.size w w' := by
  obtain ⟨i0, hi, hz0, hz1, hz2⟩ := info_parts Tryd.infoInt
  have q22 : ∀ (w : World) (a : Option Addr) (n c n' c' : Nat), (binOp .eql 30 (.slice a n c) (.slice none n' c')).run Tryd.prog w = .ok (.bool a.isNone) w := fun w a n c n' c' => Lib.run_eql_slice_nil w _ _ a n c n' c' Tryd.underlying30
  have hl := h.1
  rcases h.2 with ⟨rfl, rfl⟩ | ⟨g, cap, cur, rfl, _⟩
  · obtain rfl : xs = [] := by simpa using hl
    go_enter Tryd.func33, Tryd.ntmps33
    go_wp2
    go_ret
    exact ⟨_, rfl, World.ownsRow_nil _ _ _ _, Below.refl _ _⟩
  · have A : Hid (∀ j u, xs[j]? = some u → w.cell? ((⟨g, 0, none⟩ : Addr).add j) = some u) := h.cells rfl
    clear h
    go_enter Tryd.func33, Tryd.ntmps33
    go_wp2_with (at_builtin; refine wpList_append_own _ rfl _ _ 30 rfl w.heap.size 3 i0 (.int .i64 0) 1 8 Tryd.underlying30 hi hz0 hz1 hz2 rfl (by decide) _ _ _ rfl (World.ownsRow_made w #[] 0 (Nat.le_refl _) (Nat.zero_le _) (by simp)) ⟨g, 0, none⟩ n cap xs rfl ?qc1 ?qc2 ?qc3 ?qc4 ?qc5 ?qc6 ?_)
    case qc1 => exact hl
    case qc2 =>
      intro j u hj
      exact Lib.cell?_alloc_some _ (A.out j u hj)
    case qc3 => exact h1
    case qc4 => unfold maxLen; omega
    case qc5 => omega
    case qc6 => simp
    intro v' w1 hown hgrow _
    go_wp2
    go_ret
    exact ⟨v', rfl, by simpa using hown, ((Below.refl _ w).alloc (Nat.le_refl _) _).grown hgrow (by simp) (by intro k hk; simp [Value.ownBlock] at hk; omega)⟩

theorem int_cells {w : World} {base g cap : Nat} {l : List Nat} {e : TypeId} (h : w.ownsRow base e 1 (.slice (some ⟨g, 0, none⟩) l.length cap) l.length (l.map natV)) :
    ∀ j, j < l.length → w.cell? ⟨g, j, none⟩ = some (.int .i64 ((l.getD j 0 : Nat) : Int)) := by
  intro j hj
  have := h.cells (g := g) rfl j (natV (l.getD j 0)) (by simp [List.getD, hj])
  have e : (⟨g, 0, none⟩ : Addr).add j = ⟨g, j, none⟩ := by unfold Addr.add; split <;> simp_all
  rw [e] at this
  exact this

set_option maxHeartbeats 800000 in
theorem index_any {w : World} {B : Nat} {v : Value} {l : List Nat} (h : w.ownsRow B 3 1 v l.length (l.map natV)) (x : Int) (hn : l.length ≤ 100000) :
    Calls Tryd.prog 48 #[v, .int .i64 x] w fun e w' => (∃ r : Int, e = .returned (.int .i64 r) ∧ (0 ≤ r ↔ ∃ u ∈ l, (u : Int) = x)) ∧ w = w' := by
  have hv : ∃ a c, v = .slice a l.length c ∧ ∀ j, j < l.length → ∃ g, a = some ⟨g, 0, none⟩ ∧ w.cell? ⟨g, j, none⟩ = some (.int .i64 ((l.getD j 0 : Nat) : Int)) := by
    rcases h.2 with ⟨rfl, h0⟩ | ⟨g, cap, cur, rfl, _⟩
    · exact ⟨none, 0, by rw [h0], fun j hj => by omega⟩
    · exact ⟨_, _, rfl, fun j hj => ⟨g, rfl, int_cells h j hj⟩⟩
  obtain ⟨a, c, rfl, hc⟩ := hv
  have HC : Hid (∀ j, j < l.length → ∃ g, a = some ⟨g, 0, none⟩ ∧ w.cell? ⟨g, j, none⟩ = some (.int .i64 ((l.getD j 0 : Nat) : Int))) := hc
  have hmem : ∀ k, k = l.length → (∀ j, j < k → ((l.getD j 0 : Nat) : Int) ≠ x) → ¬ ∃ u ∈ l, (u : Int) = x := by
    rintro k rfl hk ⟨u, hu, rfl⟩
    obtain ⟨j, hj, rfl⟩ := List.getElem_of_mem hu
    exact hk j hj (by simp [List.getD, hj])
  have HM : Hid (∀ k, k = l.length → (∀ j, j < k → ((l.getD j 0 : Nat) : Int) ≠ x) → ¬ ∃ u ∈ l, (u : Int) = x) := hmem
  have HI : Hid (∀ k, k < l.length → ((l.getD k 0 : Nat) : Int) = x → ∃ u ∈ l, (u : Int) = x) := fun k hk he => ⟨l[k], by simp, by rw [← he]; simp [List.getD, hk]⟩
  clear h hc hmem
  generalize l.length = n at HC HM HI hn ⊢
  go_enter Tryd.func48, Tryd.ntmps48
  go_wp2
  go_loop [8] (fun i => ∃ k : Nat, k ≤ n ∧ i = .int .i64 k ∧ ∀ j, j < k → ((l.getD j 0 : Nat) : Int) ≠ x) (fun i => n - (intOf i).toNat)
  case atStart => exact ⟨0, Nat.zero_le _, rfl, fun j hj => by omega⟩
  case round =>
    obtain ⟨k, hk, rfl, hne⟩ := hrel
    have HN : Hid (∀ j, j < k → ((l.getD j 0 : Nat) : Int) ≠ x) := hne
    clear hne
    by_cases hlt : k < n
    · obtain ⟨g, rfl, hck⟩ := HC.out k hlt
      have HK := HI.out k hlt
      have HI2 : Hid (((l.getD k 0 : Nat) : Int) = x → ∃ u ∈ l, (u : Int) = x) := HK
      have HS : Hid (((l.getD k 0 : Nat) : Int) ≠ x → ∀ j, j < k + 1 → ((l.getD j 0 : Nat) : Int) ≠ x) := by
        intro h j hj
        by_cases e : j = k
        · rw [e]; exact h
        · exact HN.out j (by omega)
      clear HK
      generalize ((l.getD k 0 : Nat) : Int) = y at hck HI2 HS
      by_cases hxy : x = y
      · have hbb : (x == y) = true := by simp [hxy]
        go_wp2
        go_ret
        refine ⟨⟨_, rfl, ⟨fun _ => ?_, fun _ => by omega⟩⟩, rfl⟩
        obtain ⟨u, hu, he⟩ := HI2.out hxy.symm
        exact ⟨u, hu, by omega⟩
      · have hbb : (x == y) = false := by simp [hxy]
        go_wp2
        go_round
        case rel => exact ⟨k + 1, by omega, by go_num, HS.out (fun e => hxy e.symm)⟩
        case measure => simp [intOf]; omega
    · obtain rfl : k = n := by omega
      have hm : Hid (¬ ∃ u ∈ l, (u : Int) = x) := HM.out k rfl HN.out
      go_wp2
      go_ret
      refine ⟨⟨-1, rfl, ?_⟩, rfl⟩
      constructor
      · intro h; omega
      · intro h; exact (hm.out h).elim

set_option maxHeartbeats 800000 in
theorem contains_any {w : World} {B : Nat} {v : Value} {l : List Nat} (h : w.ownsRow B 3 1 v l.length (l.map natV)) (x : Int) (hn : l.length ≤ 100000) :
    Calls Tryd.prog 34 #[v, .int .i64 x] w fun e w' => e = .returned (.bool (l.any (fun u => (u : Int) == x))) ∧ w = w' := by
  have HX := index_any h x hn
  have HX2 : Hid (Calls Tryd.prog 48 #[v, .int .i64 x] w fun e w' => (∃ r : Int, e = .returned (.int .i64 r) ∧ (0 ≤ r ↔ ∃ u ∈ l, (u : Int) = x)) ∧ w = w') := HX
  have HA : Hid ((l.any (fun u => (u : Int) == x)) = true ↔ ∃ u ∈ l, (u : Int) = x) := by show _ ↔ _; simp
  clear HX h
  generalize l.any (fun u => (u : Int) == x) = r0 at HA ⊢
  go_enter Tryd.func34, Tryd.ntmps34
  go_wp2_with (go_at_call 48; (with_reducible refine HX2.out.mono ?_); rintro e w' ⟨⟨r, rfl, hr⟩, rfl⟩; have HR : Hid (0 ≤ r ↔ ∃ u ∈ l, (u : Int) = x) := hr; clear hr)
  go_ret
  refine ⟨?_, rfl⟩
  have h1 := HA.out
  have h2 := HR.out
  congr 2
  cases r0
  · have : ¬ 0 ≤ r := fun h => by have := h1.2 (h2.1 h); cases this
    simp; omega
  · have : 0 ≤ r := h2.2 (h1.1 rfl)
    simp; omega
end Go.Proofs.YtlkojoinbogkmaaDoor
