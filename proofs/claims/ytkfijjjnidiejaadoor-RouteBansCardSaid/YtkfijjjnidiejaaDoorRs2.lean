/- Joined texts: Rs0, Rs1, Rs2. -/
import Derived.Test.YtkfijjjnidiejaaDoorSh2
import Derived.Test.YtkfijjjnidiejaaDoorSh3
import Derived.Laws.AppendOwnNone
import Derived.Deep.RegionHeld3

/-
  RouteRest: what is left of routes; banned cells that make no difference.
-/
namespace Go.Proofs.YtkfijjjnidiejaaDoor
set_option maxRecDepth 100000
set_option linter.unusedSimpArgs false
open Go Go.RowKit Rq

section
variable {R C : Nat} {ms : List UInt8} {ban : List Int} {fr to_ D : Nat}

theorem ds_of_wy {bk : Nat → List Nat} {may may' : Nat → Bool} {e d y : Nat} (h : ∀ m, m ≤ d → (Wy bk may e m y ↔ Wy bk may' e m y)) : Ds bk may e d y ↔ Ds bk may' e d y :=
  ⟨fun ⟨h1, h2⟩ => ⟨(h d (Nat.le_refl _)).1 h1, fun m hm hw => h2 m hm ((h m (by omega)).2 hw)⟩, fun ⟨h1, h2⟩ => ⟨(h d (Nat.le_refl _)).2 h1, fun m hm hw => h2 m hm ((h m (by omega)).1 hw)⟩⟩

/-- A route's cell: free, and it may be gone over. -/
theorem wy_free (hC : 1 ≤ C) (hN : R * C = ms.length) {may : Nat → Bool} {e n x : Nat} (he : freeB ms (e : Int) = true) (hw : Wy (ins R C ms) may e n x) : freeB ms (x : Int) = true := by
  cases hw with
  | base _ => exact he
  | step _ h2 _ =>
    obtain ⟨h3, h4⟩ := ins_mem.1 h2
    exact (out_facts hC hN h3 h4).2.2.1

/-- What is left of a route behind one of its cells is the route from there. -/
theorem rest_eq (hC : 1 ≤ C) (hN : R * C = ms.length) (ht : to_ < ms.length) (hf2 : freeB ms (to_ : Int) = true) (h : dsZ R C ms ban fr to_ fr = some D) {i : Nat} (h1 : 1 ≤ i) (hi : i ≤ D) {bud : Int} (hb : (ms.length : Int) ≤ bud) :
    findZ R C ms (((routeZ R C ms ban fr to_ D).getD i 0 : Nat) : Int) (to_ : Int) ban bud = ((routeZ R C ms ban fr to_ D).drop i, 0) := by
  have hDs := (dsZ_some ht).1 h
  obtain ⟨h2, h3⟩ := pthR_at ht (bkN R C ms) hDs i hi
  have h2' : Ds (ins R C ms) (mayZ ban fr) to_ (D - i) ((routeZ R C ms ban fr to_ D).getD i 0) := h2
  have h3' : (routeZ R C ms ban fr to_ D).drop i = pthR ms.length (outs R C ms) (mayZ ban fr) to_ (D - i) ((routeZ R C ms ban fr to_ D).getD i 0) := h3
  generalize (routeZ R C ms ban fr to_ D).getD i 0 = y at *
  have hw : ∀ m z, m < D → (Wy (ins R C ms) (mayZ ban fr) to_ m z ↔ Wy (ins R C ms) (mayZ ban y) to_ m z) := by
    intro m z hm
    constructor
    · intro hw
      refine hw.agree (G := fun d _ => d < D) (fun d x b _ hd => by omega) (fun d z hd hwz hmz => ?_) hm
      rcases (may_iff ban fr z).1 hmz with h4 | h4
      · exact (may_iff ban y z).2 (.inl h4)
      · subst h4
        exact absurd hwz (hDs.2 d hd)
    · intro hw
      refine hw.agree (G := fun d _ => d < D) (fun d x b _ hd => by omega) (fun d z hd hwz hmz => ?_) hm
      rcases (may_iff ban y z).1 hmz with h4 | h4
      · exact (may_iff ban fr z).2 (.inl h4)
      · rw [h4]; exact h2'.1.last
  have hd : ∀ m z, m < D → (Ds (ins R C ms) (mayZ ban fr) to_ m z ↔ Ds (ins R C ms) (mayZ ban y) to_ m z) := fun m z hm => ds_of_wy (fun k hk => hw k z (by omega))
  have h5 := (hd (D - i) y (by omega)).1 h2'
  have hfy := wy_free hC hN hf2 h2'.1
  rw [find_some_ hfy hf2 ((dsZ_some ht).2 h5) hb, h3']
  unfold routeZ
  rw [pthR_agree ht (bkN R C ms) (G := fun d _ => d < D) (fun d x y _ _ hd => by omega) hd h2' (by omega)]

/-- What is left at least, along a route. -/
theorem route_left {bm gm cm : Nat} {w : World} (hE : EM bm gm cm R C ms w) (ht : to_ < ms.length) (hfr : fr < ms.length) (h : dsZ R C ms ban fr to_ fr = some D) : ∀ i, i ≤ D → hZ C ms.length fr ((routeZ R C ms ban fr to_ D).getD i 0) ≤ i := by
  have hl := lftE (E := ⟨bm, gm, cm, R, C, ms, 0, 0, 0, fr, 0, []⟩) hE hfr
  have hDs := (dsZ_some ht).1 h
  intro i
  induction i with
  | zero =>
    intro _
    rw [routeZ_head]
    exact Nat.le_of_eq hl.zero
  | succ i ih =>
    intro hi
    have h1 := ih (by omega)
    have h2 := pthR_step ht (bkN R C ms) hDs i (by omega)
    have h3 := routeZ_lt ht h (i := i) (by omega)
    have h4 := (hl.one ((routeZ R C ms ban fr to_ D).getD (i + 1) 0) ((routeZ R C ms ban fr to_ D).getD i 0) (ins_mem.2 ⟨h3, h2⟩)).2
    have h5 : hZ C ms.length fr ((routeZ R C ms ban fr to_ D).getD (i + 1) 0) ≤ hZ C ms.length fr ((routeZ R C ms ban fr to_ D).getD i 0) + 1 := h4
    omega

theorem mem_frees {x : Nat} : x ∈ frees ms ↔ x < ms.length ∧ freeB ms (x : Int) = true := by
  unfold frees freeK
  rw [List.mem_filter, List.mem_range]
  constructor
  · rintro ⟨h1, h2⟩
    exact ⟨h1, by rw [freeB_nat h1]; exact h2⟩
  · rintro ⟨h1, h2⟩
    rw [freeB_nat h1] at h2
    exact ⟨h1, h2⟩

/-- At least a route's cells are looked at, and free cells at most. -/
theorem looks_ge {bm gm cm : Nat} {w : World} (hE : EM bm gm cm R C ms w) (ht : to_ < ms.length) (hfr : fr < ms.length) (h : dsZ R C ms ban fr to_ fr = some D) : D + 1 ≤ looksN R C ms ban fr to_ := by
  have hDs := (dsZ_some ht).1 h
  have hat := fun i (hi : i ≤ D) => (pthR_at ht (bkN R C ms) hDs i hi).1
  obtain ⟨M, hM⟩ : ∃ M : List (Nat × Nat), M = (List.range (D + 1)).map (fun i => ((routeZ R C ms ban fr to_ D).getD i 0, D - i)) := ⟨_, rfl⟩
  have hmem : ∀ c d, (c, d) ∈ M → ∃ i, i ≤ D ∧ c = (routeZ R C ms ban fr to_ D).getD i 0 ∧ d = D - i := by
    intro c d hm
    rw [hM, List.mem_map] at hm
    obtain ⟨i, hi, e⟩ := hm
    rw [List.mem_range] at hi
    exact ⟨i, by omega, (Prod.mk.inj e).1.symm, (Prod.mk.inj e).2.symm⟩
  have hlen : M.length = D + 1 := by rw [hM]; simp
  rw [← hlen]
  refine looks_le ht (bkN R C ms) ?_ (fun c d hm => ?_)
  · rw [hM, List.map_map, List.Nodup, List.pairwise_map]
    refine List.Pairwise.imp_of_mem (R := (· < ·)) ?_ (by rw [List.range_eq_range']; exact List.pairwise_lt_range' (step := 1))
    intro i j hi hj hij e
    rw [List.mem_range] at hi hj
    have h1 : Ds (ins R C ms) (mayZ ban fr) to_ (D - i) ((routeZ R C ms ban fr to_ D).getD i 0) := hat i (by omega)
    have h2 : Ds (ins R C ms) (mayZ ban fr) to_ (D - j) ((routeZ R C ms ban fr to_ D).getD j 0) := hat j (by omega)
    have e' : (routeZ R C ms ban fr to_ D).getD i 0 = (routeZ R C ms ban fr to_ D).getD j 0 := e
    rw [← e'] at h2
    have := h1.uniq h2
    omega
  · obtain ⟨i, hi, rfl, rfl⟩ := hmem c d hm
    refine ⟨hat i hi, fun D' hD' => ?_⟩
    have h1 := route_left hE ht hfr h i hi
    have h2 := hD'.uniq hDs
    omega
theorem looks_free (hC : 1 ≤ C) (hN : R * C = ms.length) (ht : to_ < ms.length) (hf2 : freeB ms (to_ : Int) = true) : looksN R C ms ban fr to_ ≤ (frees ms).length := by
  have := List.Nodup.length_le_of_subset (l₁ := (List.range ms.length).filter (lkC ms.length (outs R C ms) (mayZ ban fr) to_ fr (hZ C ms.length fr))) (l₂ := frees ms) (List.nodup_range.sublist List.filter_sublist) (fun x hx => by
    obtain ⟨h1, h2⟩ := List.mem_filter.1 hx
    obtain ⟨d, hd⟩ := (lkC_iff ht (bkN R C ms)).1 h2
    have h3 := wy_free hC hN hf2 hd.1.1
    exact mem_frees.2 ⟨List.mem_range.1 h1, h3⟩)
  exact this

/-- Banned cells that are too far from the beginning make no difference. -/
theorem far_eq {bm gm cm : Nat} {w : World} (hE : EM bm gm cm R C ms w) (ht : to_ < ms.length) (hfr : fr < ms.length) (hf : freeB ms (fr : Int) = true) (hf2 : freeB ms (to_ : Int) = true) (h : dsZ R C ms ban fr to_ fr = some D) {more : List Int} (hm : ∀ x ∈ more, ((D + 1 : Nat) : Int) ≤ farZ C ms.length (fr : Int) x) {bud : Int} (hb : (ms.length : Int) ≤ bud) :
    findZ R C ms (fr : Int) (to_ : Int) (ban ++ more) bud = (routeZ R C ms ban fr to_ D, 0) := by
  have hl := lftE (E := ⟨bm, gm, cm, R, C, ms, 0, 0, 0, fr, 0, []⟩) hE hfr
  have hDs := (dsZ_some ht).1 h
  have hz : hZ C ms.length fr fr = 0 := hl.zero
  have hone : ∀ x b, b ∈ ins R C ms x → hZ C ms.length fr b ≤ hZ C ms.length fr x + 1 ∧ hZ C ms.length fr x ≤ hZ C ms.length fr b + 1 := hl.one
  have hG : ∀ d x b, b ∈ ins R C ms x → d + 1 + hZ C ms.length fr b ≤ D → d + hZ C ms.length fr x ≤ D := fun d x b hb hd => by
    have := (hone x b hb).2
    omega
  have hlt : ∀ m z (may : Nat → Bool), Wy (ins R C ms) may to_ m z → z < ms.length := fun m z may hw => hw.lt ht (fun _ _ hb => (ins_mem.1 hb).1)
  have hw : ∀ m z, m + hZ C ms.length fr z ≤ D → (Wy (ins R C ms) (mayZ ban fr) to_ m z ↔ Wy (ins R C ms) (mayZ (ban ++ more) fr) to_ m z) := by
    intro m z hmz
    constructor
    · intro hw
      refine hw.agree (G := fun d z => d + hZ C ms.length fr z ≤ D) hG (fun d z hd hwz hm1 => ?_) hmz
      rcases (may_iff ban fr z).1 hm1 with h4 | h4
      · refine (may_iff (ban ++ more) fr z).2 (.inl ?_)
        unfold banF at h4 ⊢
        rw [decide_eq_false_iff_not] at h4 ⊢
        intro h5
        rcases List.mem_append.1 h5 with h6 | h6
        · exact h4 h6
        · have h7 := hm _ h6
          have h8 : farZ C ms.length (fr : Int) (z : Int) = ((hZ C ms.length fr z : Nat) : Int) := lft_int (E := ⟨bm, gm, cm, R, C, ms, 0, 0, 0, fr, 0, []⟩) hfr (hlt _ _ _ hwz)
          rw [h8] at h7
          have h9 : d + hZ C ms.length fr z ≤ D := hd
          omega
      · exact (may_iff (ban ++ more) fr z).2 (.inr h4)
    · intro hw
      refine hw.mono (fun z hm1 => ?_)
      rcases (may_iff (ban ++ more) fr z).1 hm1 with h4 | h4
      · refine (may_iff ban fr z).2 (.inl ?_)
        unfold banF at h4 ⊢
        rw [decide_eq_false_iff_not] at h4 ⊢
        exact fun h5 => h4 (List.mem_append.2 (.inl h5))
      · exact (may_iff ban fr z).2 (.inr h4)
  have hd : ∀ m z, m + hZ C ms.length fr z ≤ D → (Ds (ins R C ms) (mayZ ban fr) to_ m z ↔ Ds (ins R C ms) (mayZ (ban ++ more) fr) to_ m z) := fun m z hm => ds_of_wy (fun k hk => hw k z (by omega))
  have h5 := (hd D fr (by omega)).1 hDs
  rw [find_some_ hf hf2 ((dsZ_some ht).2 h5) hb]
  unfold routeZ
  rw [pthR_agree ht (bkN R C ms) (G := fun d z => d + hZ C ms.length fr z ≤ D) (fun d x y hy hx hd => ?_) hd hDs (by show D + hZ C ms.length fr fr ≤ D; omega)]
  have := (hone y x (ins_mem.2 ⟨hx, hy⟩)).1
  show d + hZ C ms.length fr y ≤ D
  have h9 : d + 1 + hZ C ms.length fr x ≤ D := hd
  have h10 := (hone y x (ins_mem.2 ⟨hx, hy⟩)).2
  omega
end
end Go.Proofs.YtkfijjjnidiejaaDoor

/-
  RouteRest: a list, and a part of another one; banned cells and more of them.
-/
namespace Go.Proofs.YtkfijjjnidiejaaDoor
set_option maxRecDepth 100000
set_option linter.unusedSimpArgs false
open Go Go.RowKit Rq

set_option maxHeartbeats 1000000 in
theorem same_part {w : World} {u : Value} {l : List Nat} {a2 : Addr} {c2 : Nat} (hl : Lst w u l) (h2 : ∀ j, j < l.length → w.cell? (a2.add j) = some (.int .i64 ((l.getD j 0 : Nat) : Int))) (hn : l.length ≤ 100000) {n : Nat} (hnl : l.length = n) :
    Calls Tryd.prog 13 #[u, .slice (some a2) n c2] w fun e w' => e = .returned (.bool true) ∧ ∃ q, w' = w.drewN q := by
  subst hnl
  obtain ⟨a, c, rfl, h1⟩ := hl
  have H1 : Hid (∀ j, j < l.length → ∃ g, a = some ⟨g, 0, none⟩ ∧ w.cell? ⟨g, j, none⟩ = some (.int .i64 ((l.getD j 0 : Nat) : Int))) := h1
  have H2 := Lib.hid h2
  clear h1 h2
  generalize l.length = n at *
  go_enter Tryd.func13, Tryd.ntmps13
  go_wp2
  go_loopw [5] (fun i wr => ∃ k : Nat, k ≤ n ∧ i = .int .i64 k ∧ ∃ q, wr = w.drewN q) (fun i _ => n - (intOf i).toNat)
  case atStart => exact ⟨0, Nat.zero_le _, rfl, 0, rfl⟩
  case round =>
    obtain ⟨k, hk, rfl, q, rfl⟩ := hrel
    by_cases hlt : k < n
    · obtain ⟨g, rfl, hck⟩ := H1.out k hlt
      have hck2 := H2.out k hlt
      have hq1 : (w.drewN q).cell? ⟨g, k, none⟩ = some (.int .i64 ((l.getD k 0 : Nat) : Int)) := hck
      have hq2 : (w.drewN q).cell? (a2.add k) = some (.int .i64 ((l.getD k 0 : Nat) : Int)) := hck2
      have HX1 : Hid (∀ r, ∃ x, (w.drewN q).drewN r = w.drewN x) := fun r => ⟨q + r, by rw [World.drewN_drewN]⟩
      have hlt' : (k : Int) < (n : Int) := by omega
      have hk0 : (0 : Int) ≤ (k : Int) := by omega
      clear hck hck2
      generalize l.getD k 0 = x at hq1 hq2
      generalize w.drewN q = w1 at *
      have hb : ((x : Int) != (x : Int)) = false := by simp
      go_wp2
      go_region
      go_wp2
      go_roundw
      case rel => exact ⟨k + 1, by omega, by go_num, HX1.out _⟩
      case measure => simp [intOf]; omega
    · obtain rfl : k = n := by omega
      go_wp2
      go_ret
      exact ⟨rfl, q, rfl⟩

end Go.Proofs.YtkfijjjnidiejaaDoor

/-
  The walk of the law RouteRest.
-/
namespace Go.Proofs.YtkfijjjnidiejaaDoor
set_option maxRecDepth 100000
set_option linter.unusedSimpArgs false
open Go Go.RowKit Rq

end Go.Proofs.YtkfijjjnidiejaaDoor
