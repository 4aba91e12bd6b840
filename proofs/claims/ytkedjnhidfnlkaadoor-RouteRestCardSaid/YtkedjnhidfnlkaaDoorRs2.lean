/- Joined texts: Rs0, Rs1, Rs2. -/
import Derived.Test.YtkedjnhidfnlkaaDoorSh2
import Derived.Test.YtkedjnhidfnlkaaDoorSh3
import Derived.Laws.AppendOwnNone
import Derived.Deep.RegionHeld3

/-
  RouteRest: what is left of routes; banned cells that make no difference.
-/
namespace Go.Proofs.YtkedjnhidfnlkaaDoor
set_option maxRecDepth 100000
set_option linter.unusedSimpArgs false
open Go Go.RowKit Rq

section
variable {R C : Nat} {ms : List UInt8} {ban : List Int} {fr to_ D : Nat}

theorem ds_of_wy {bk : Nat → List Nat} {may may' : Nat → Bool} {e d y : Nat} (h : ∀ m, m ≤ d → (Wy bk may e m y ↔ Wy bk may' e m y)) : Ds bk may e d y ↔ Ds bk may' e d y :=
  ⟨fun ⟨h1, h2⟩ => ⟨(h d (Nat.le_refl _)).1 h1, fun m hm hw => h2 m hm ((h m (by omega)).2 hw)⟩, fun ⟨h1, h2⟩ => ⟨(h d (Nat.le_refl _)).2 h1, fun m hm hw => h2 m hm ((h m (by omega)).1 hw)⟩⟩

/-- A route's cell: free, and it may be gone over. -/
theorem wy_free (hC : 1 ≤ C) (hN : R * C = ms.length) {may : Nat → Bool} {e n x : Nat} (he : freeB ms (e : Int) = true) (hw : Wy (ins R C ms) may e n x) : freeB ms (x : Int) = true := by
  cases hw with
  | base _ => exact he
  | step _ h2 _ =>
    obtain ⟨h3, h4⟩ := ins_mem.1 h2
    exact (out_facts hC hN h3 h4).2.2.1

/-- What is left of a route behind one of its cells is the route from there. -/
theorem rest_eq (hC : 1 ≤ C) (hN : R * C = ms.length) (ht : to_ < ms.length) (hf2 : freeB ms (to_ : Int) = true) (h : dsZ R C ms ban fr to_ fr = some D) {i : Nat} (h1 : 1 ≤ i) (hi : i ≤ D) {bud : Int} (hb : (ms.length : Int) ≤ bud) :
    findZ R C ms (((routeZ R C ms ban fr to_ D).getD i 0 : Nat) : Int) (to_ : Int) ban bud = ((routeZ R C ms ban fr to_ D).drop i, 0) := by
  have hDs := (dsZ_some ht).1 h
  obtain ⟨h2, h3⟩ := pthR_at ht (bkN R C ms) hDs i hi
  have h2' : Ds (ins R C ms) (mayZ ban fr) to_ (D - i) ((routeZ R C ms ban fr to_ D).getD i 0) := h2
  have h3' : (routeZ R C ms ban fr to_ D).drop i = pthR ms.length (outs R C ms) (mayZ ban fr) to_ (D - i) ((routeZ R C ms ban fr to_ D).getD i 0) := h3
  generalize (routeZ R C ms ban fr to_ D).getD i 0 = y at *
  have hw : ∀ m z, m < D → (Wy (ins R C ms) (mayZ ban fr) to_ m z ↔ Wy (ins R C ms) (mayZ ban y) to_ m z) := by
    intro m z hm
    constructor
    · intro hw
      refine hw.agree (G := fun d _ => d < D) (fun d x b _ hd => by omega) (fun d z hd hwz hmz => ?_) hm
      rcases (may_iff ban fr z).1 hmz with h4 | h4
      · exact (may_iff ban y z).2 (.inl h4)
      · subst h4
        exact absurd hwz (hDs.2 d hd)
    · intro hw
      refine hw.agree (G := fun d _ => d < D) (fun d x b _ hd => by omega) (fun d z hd hwz hmz => ?_) hm
      rcases (may_iff ban y z).1 hmz with h4 | h4
      · exact (may_iff ban fr z).2 (.inl h4)
      · rw [h4]; exact h2'.1.last
  have hd : ∀ m z, m < D → (Ds (ins R C ms) (mayZ ban fr) to_ m z ↔ Ds (ins R C ms) (mayZ ban y) to_ m z) := fun m z hm => ds_of_wy (fun k hk => hw k z (by omega))
  have h5 := (hd (D - i) y (by omega)).1 h2'
  have hfy := wy_free hC hN hf2 h2'.1
  rw [find_some_ hfy hf2 ((dsZ_some ht).2 h5) hb, h3']
  unfold routeZ
  rw [pthR_agree ht (bkN R C ms) (G := fun d _ => d < D) (fun d x y _ _ hd => by omega) hd h2' (by omega)]

/-- What is left at least, along a route. -/
theorem route_left {bm gm cm : Nat} {w : World} (hE : EM bm gm cm R C ms w) (ht : to_ < ms.length) (hfr : fr < ms.length) (h : dsZ R C ms ban fr to_ fr = some D) : ∀ i, i ≤ D → hZ C ms.length fr ((routeZ R C ms ban fr to_ D).getD i 0) ≤ i := by
  have hl := lftE (E := ⟨bm, gm, cm, R, C, ms, 0, 0, 0, fr, 0, []⟩) hE hfr
  have hDs := (dsZ_some ht).1 h
  intro i
  induction i with
  | zero =>
    intro _
    rw [routeZ_head]
    exact Nat.le_of_eq hl.zero
  | succ i ih =>
    intro hi
    have h1 := ih (by omega)
    have h2 := pthR_step ht (bkN R C ms) hDs i (by omega)
    have h3 := routeZ_lt ht h (i := i) (by omega)
    have h4 := (hl.one ((routeZ R C ms ban fr to_ D).getD (i + 1) 0) ((routeZ R C ms ban fr to_ D).getD i 0) (ins_mem.2 ⟨h3, h2⟩)).2
    have h5 : hZ C ms.length fr ((routeZ R C ms ban fr to_ D).getD (i + 1) 0) ≤ hZ C ms.length fr ((routeZ R C ms ban fr to_ D).getD i 0) + 1 := h4
    omega

theorem mem_frees {x : Nat} : x ∈ frees ms ↔ x < ms.length ∧ freeB ms (x : Int) = true := by
  unfold frees freeK
  rw [List.mem_filter, List.mem_range]
  constructor
  · rintro ⟨h1, h2⟩
    exact ⟨h1, by rw [freeB_nat h1]; exact h2⟩
  · rintro ⟨h1, h2⟩
    rw [freeB_nat h1] at h2
    exact ⟨h1, h2⟩

/-- At least a route's cells are looked at, and free cells at most. -/
theorem looks_ge {bm gm cm : Nat} {w : World} (hE : EM bm gm cm R C ms w) (ht : to_ < ms.length) (hfr : fr < ms.length) (h : dsZ R C ms ban fr to_ fr = some D) : D + 1 ≤ looksN R C ms ban fr to_ := by
  have hDs := (dsZ_some ht).1 h
  have hat := fun i (hi : i ≤ D) => (pthR_at ht (bkN R C ms) hDs i hi).1
  obtain ⟨M, hM⟩ : ∃ M : List (Nat × Nat), M = (List.range (D + 1)).map (fun i => ((routeZ R C ms ban fr to_ D).getD i 0, D - i)) := ⟨_, rfl⟩
  have hmem : ∀ c d, (c, d) ∈ M → ∃ i, i ≤ D ∧ c = (routeZ R C ms ban fr to_ D).getD i 0 ∧ d = D - i := by
    intro c d hm
    rw [hM, List.mem_map] at hm
    obtain ⟨i, hi, e⟩ := hm
    rw [List.mem_range] at hi
    exact ⟨i, by omega, (Prod.mk.inj e).1.symm, (Prod.mk.inj e).2.symm⟩
  have hlen : M.length = D + 1 := by rw [hM]; simp
  rw [← hlen]
  refine looks_le ht (bkN R C ms) ?_ (fun c d hm => ?_)
  · rw [hM, List.map_map, List.Nodup, List.pairwise_map]
    refine List.Pairwise.imp_of_mem (R := (· < ·)) ?_ (by rw [List.range_eq_range']; exact List.pairwise_lt_range' (step := 1))
    intro i j hi hj hij e
    rw [List.mem_range] at hi hj
    have h1 : Ds (ins R C ms) (mayZ ban fr) to_ (D - i) ((routeZ R C ms ban fr to_ D).getD i 0) := hat i (by omega)
    have h2 : Ds (ins R C ms) (mayZ ban fr) to_ (D - j) ((routeZ R C ms ban fr to_ D).getD j 0) := hat j (by omega)
    have e' : (routeZ R C ms ban fr to_ D).getD i 0 = (routeZ R C ms ban fr to_ D).getD j 0 := e
    rw [← e'] at h2
    have := h1.uniq h2
    omega
  · obtain ⟨i, hi, rfl, rfl⟩ := hmem c d hm
    refine ⟨hat i hi, fun D' hD' => ?_⟩
    have h1 := route_left hE ht hfr h i hi
    have h2 := hD'.uniq hDs
    omega
theorem looks_free (hC : 1 ≤ C) (hN : R * C = ms.length) (ht : to_ < ms.length) (hf2 : freeB ms (to_ : Int) = true) : looksN R C ms ban fr to_ ≤ (frees ms).length := by
  have := List.Nodup.length_le_of_subset (l₁ := (List.range ms.length).filter (lkC ms.length (outs R C ms) (mayZ ban fr) to_ fr (hZ C ms.length fr))) (l₂ := frees ms) (List.nodup_range.sublist List.filter_sublist) (fun x hx => by
    obtain ⟨h1, h2⟩ := List.mem_filter.1 hx
    obtain ⟨d, hd⟩ := (lkC_iff ht (bkN R C ms)).1 h2
    have h3 := wy_free hC hN hf2 hd.1.1
    exact mem_frees.2 ⟨List.mem_range.1 h1, h3⟩)
  exact this

/-- Banned cells that are too far from the beginning make no difference. -/
theorem far_eq {bm gm cm : Nat} {w : World} (hE : EM bm gm cm R C ms w) (ht : to_ < ms.length) (hfr : fr < ms.length) (hf : freeB ms (fr : Int) = true) (hf2 : freeB ms (to_ : Int) = true) (h : dsZ R C ms ban fr to_ fr = some D) {more : List Int} (hm : ∀ x ∈ more, ((D + 1 : Nat) : Int) ≤ farZ C ms.length (fr : Int) x) {bud : Int} (hb : (ms.length : Int) ≤ bud) :
    findZ R C ms (fr : Int) (to_ : Int) (ban ++ more) bud = (routeZ R C ms ban fr to_ D, 0) := by
  have hl := lftE (E := ⟨bm, gm, cm, R, C, ms, 0, 0, 0, fr, 0, []⟩) hE hfr
  have hDs := (dsZ_some ht).1 h
  have hz : hZ C ms.length fr fr = 0 := hl.zero
  have hone : ∀ x b, b ∈ ins R C ms x → hZ C ms.length fr b ≤ hZ C ms.length fr x + 1 ∧ hZ C ms.length fr x ≤ hZ C ms.length fr b + 1 := hl.one
  have hG : ∀ d x b, b ∈ ins R C ms x → d + 1 + hZ C ms.length fr b ≤ D → d + hZ C ms.length fr x ≤ D := fun d x b hb hd => by
    have := (hone x b hb).2
    omega
  have hlt : ∀ m z (may : Nat → Bool), Wy (ins R C ms) may to_ m z → z < ms.length := fun m z may hw => hw.lt ht (fun _ _ hb => (ins_mem.1 hb).1)
  have hw : ∀ m z, m + hZ C ms.length fr z ≤ D → (Wy (ins R C ms) (mayZ ban fr) to_ m z ↔ Wy (ins R C ms) (mayZ (ban ++ more) fr) to_ m z) := by
    intro m z hmz
    constructor
    · intro hw
      refine hw.agree (G := fun d z => d + hZ C ms.length fr z ≤ D) hG (fun d z hd hwz hm1 => ?_) hmz
      rcases (may_iff ban fr z).1 hm1 with h4 | h4
      · refine (may_iff (ban ++ more) fr z).2 (.inl ?_)
        unfold banF at h4 ⊢
        rw [decide_eq_false_iff_not] at h4 ⊢
        intro h5
        rcases List.mem_append.1 h5 with h6 | h6
        · exact h4 h6
        · have h7 := hm _ h6
          have h8 : farZ C ms.length (fr : Int) (z : Int) = ((hZ C ms.length fr z : Nat) : Int) := lft_int (E := ⟨bm, gm, cm, R, C, ms, 0, 0, 0, fr, 0, []⟩) hfr (hlt _ _ _ hwz)
          rw [h8] at h7
          have h9 : d + hZ C ms.length fr z ≤ D := hd
          omega
      · exact (may_iff (ban ++ more) fr z).2 (.inr h4)
    · intro hw
      refine hw.mono (fun z hm1 => ?_)
      rcases (may_iff (ban ++ more) fr z).1 hm1 with h4 | h4
      · refine (may_iff ban fr z).2 (.inl ?_)
        unfold banF at h4 ⊢
        rw [decide_eq_false_iff_not] at h4 ⊢
        exact fun h5 => h4 (List.mem_append.2 (.inl h5))
      · exact (may_iff ban fr z).2 (.inr h4)
  have hd : ∀ m z, m + hZ C ms.length fr z ≤ D → (Ds (ins R C ms) (mayZ ban fr) to_ m z ↔ Ds (ins R C ms) (mayZ (ban ++ more) fr) to_ m z) := fun m z hm => ds_of_wy (fun k hk => hw k z (by omega))
  have h5 := (hd D fr (by omega)).1 hDs
  rw [find_some_ hf hf2 ((dsZ_some ht).2 h5) hb]
  unfold routeZ
  rw [pthR_agree ht (bkN R C ms) (G := fun d z => d + hZ C ms.length fr z ≤ D) (fun d x y hy hx hd => ?_) hd hDs (by show D + hZ C ms.length fr fr ≤ D; omega)]
  have := (hone y x (ins_mem.2 ⟨hx, hy⟩)).1
  show d + hZ C ms.length fr y ≤ D
  have h9 : d + 1 + hZ C ms.length fr x ≤ D := hd
  have h10 := (hone y x (ins_mem.2 ⟨hx, hy⟩)).2
  omega
end
end Go.Proofs.YtkedjnhidfnlkaaDoor

/-
  RouteRest: a list, and a part of another one; banned cells and more of them.
-/
namespace Go.Proofs.YtkedjnhidfnlkaaDoor
set_option maxRecDepth 100000
set_option linter.unusedSimpArgs false
open Go Go.RowKit Rq

set_option maxHeartbeats 1000000 in
theorem same_part {w : World} {u : Value} {l : List Nat} {a2 : Addr} {c2 : Nat} (hl : Lst w u l) (h2 : ∀ j, j < l.length → w.cell? (a2.add j) = some (.int .i64 ((l.getD j 0 : Nat) : Int))) (hn : l.length ≤ 100000) {n : Nat} (hnl : l.length = n) :
    Calls Tryd.prog 18 #[u, .slice (some a2) n c2] w fun e w' => e = .returned (.bool true) ∧ ∃ q, w' = w.drewN q := by
  subst hnl
  obtain ⟨a, c, rfl, h1⟩ := hl
  have H1 : Hid (∀ j, j < l.length → ∃ g, a = some ⟨g, 0, none⟩ ∧ w.cell? ⟨g, j, none⟩ = some (.int .i64 ((l.getD j 0 : Nat) : Int))) := h1
  have H2 := Lib.hid h2
  clear h1 h2
  generalize l.length = n at *
  go_enter Tryd.func18, Tryd.ntmps18
  go_wp2
  go_loopw [5] (fun i wr => ∃ k : Nat, k ≤ n ∧ i = .int .i64 k ∧ ∃ q, wr = w.drewN q) (fun i _ => n - (intOf i).toNat)
  case atStart => exact ⟨0, Nat.zero_le _, rfl, 0, rfl⟩
  case round =>
    obtain ⟨k, hk, rfl, q, rfl⟩ := hrel
    by_cases hlt : k < n
    · obtain ⟨g, rfl, hck⟩ := H1.out k hlt
      have hck2 := H2.out k hlt
      have hq1 : (w.drewN q).cell? ⟨g, k, none⟩ = some (.int .i64 ((l.getD k 0 : Nat) : Int)) := hck
      have hq2 : (w.drewN q).cell? (a2.add k) = some (.int .i64 ((l.getD k 0 : Nat) : Int)) := hck2
      have HX1 : Hid (∀ r, ∃ x, (w.drewN q).drewN r = w.drewN x) := fun r => ⟨q + r, by rw [World.drewN_drewN]⟩
      have hlt' : (k : Int) < (n : Int) := by omega
      have hk0 : (0 : Int) ≤ (k : Int) := by omega
      clear hck hck2
      generalize l.getD k 0 = x at hq1 hq2
      generalize w.drewN q = w1 at *
      have hb : ((x : Int) != (x : Int)) = false := by simp
      go_wp2
      go_region
      go_wp2
      go_roundw
      case rel => exact ⟨k + 1, by omega, by go_num, HX1.out _⟩
      case measure => simp [intOf]; omega
    · obtain rfl : k = n := by omega
      go_wp2
      go_ret
      exact ⟨rfl, q, rfl⟩

end Go.Proofs.YtkedjnhidfnlkaaDoor

/-
  The walk of the law RouteRest.
-/
namespace Go.Proofs.YtkedjnhidfnlkaaDoor
set_option maxRecDepth 100000
set_option linter.unusedSimpArgs false
open Go Go.RowKit Rq

set_option maxHeartbeats 1000000 in
theorem rr_out (s : ByteArray) (fr to_ : Int) (A B : Option Addr) (m cb k ck : Nat) (w : World) (hw : Ways w) (hs : s.size ≤ maxLen) (h : 600 < s.size ∨ 100 < m ∨ 100 < k) :
    Calls Tryd.prog 7 #[.string s, .int .i64 fr, .int .i64 to_, .slice B m cb, .slice A k ck] w fun e w' => e = .returned (.bool true) ∧ Below w.heap.size w w' := by
  have HA := Lib.hid (ralive_any w hw)
  have HP : Hid (∀ w, Calls Tryd.prog 12 #[.string s] w (ParseSome w)) := fun w => parse_some s w hs
  clear hw hs
  by_cases h1 : 600 < s.size
  · clear h
    go_enter Tryd.func7, Tryd.ntmps7
    go_wp2_with (first
      | (go_at_call 26; (with_reducible refine HA.out.mono ?_); rintro e w1 ⟨rfl, hb⟩)
      | (go_at_call 12; (with_reducible refine (HP.out _).mono ?_); rintro e w2 ⟨p, l, c, z, rfl, hb2⟩))
    go_ret
    exact ⟨rfl, hb.trans (hb2.mono hb.size)⟩
  · have h3 : s.size ≤ 600 := Nat.le_of_not_lt h1
    have h4 := h.resolve_left h1
    clear h h1
    by_cases h2 : 100 < m
    · clear h4
      go_enter Tryd.func7, Tryd.ntmps7
      go_wp2_with (first
        | (go_at_call 26; (with_reducible refine HA.out.mono ?_); rintro e w1 ⟨rfl, hb⟩)
        | (go_at_call 12; (with_reducible refine (HP.out _).mono ?_); rintro e w2 ⟨p, l, c, z, rfl, hb2⟩))
      go_ret
      exact ⟨rfl, hb.trans (hb2.mono hb.size)⟩
    · have h5 : m ≤ 100 := Nat.le_of_not_lt h2
      have h6 := h4.resolve_left h2
      clear h2 h4
      go_enter Tryd.func7, Tryd.ntmps7
      go_wp2_with (first
        | (go_at_call 26; (with_reducible refine HA.out.mono ?_); rintro e w1 ⟨rfl, hb⟩)
        | (go_at_call 12; (with_reducible refine (HP.out _).mono ?_); rintro e w2 ⟨p, l, c, z, rfl, hb2⟩))
      go_ret
      exact ⟨rfl, hb.trans (hb2.mono hb.size)⟩

set_option maxHeartbeats 1000000 in
theorem rr_bad (s : ByteArray) (fr to_ : Int) (A B : Option Addr) (m cb k ck : Nat) (w : World) (hw : Ways w) (hs : s.size ≤ 600) (hm : m ≤ 100) (hk : k ≤ 100) {l c : Nat} (hv : Pure.verdict s.data.toList = .bad l c) :
    Calls Tryd.prog 7 #[.string s, .int .i64 fr, .int .i64 to_, .slice B m cb, .slice A k ck] w fun e w' => e = .returned (.bool true) ∧ Below w.heap.size w w' := by
  have HA := Lib.hid (ralive_any w hw)
  have HP := Lib.hid (fun w => parse_bad hv w (by unfold maxLen; omega))
  clear hw hv
  go_enter Tryd.func7, Tryd.ntmps7
  go_wp2_with (first
    | (go_at_call 26; (with_reducible refine HA.out.mono ?_); rintro e w1 ⟨rfl, hb⟩)
    | (go_at_call 12; (with_reducible refine (HP.out _).mono ?_); rintro e w2 ⟨rfl, hb2⟩))
  go_ret
  exact ⟨rfl, hb.trans (hb2.mono hb.size)⟩

set_option maxHeartbeats 2000000 in
theorem rr_none (s : ByteArray) (fr to_ : Int) (A B : Option Addr) (ban : List Int) (cb k ck : Nat) (w : World) (hw : Ways w) (hs : s.size ≤ 600) (hm : ban.length ≤ 100) (hk : k ≤ 100) (hB : IntsAt w B ban) {R C : Nat} {ms : List UInt8} (hG : Got s w R C ms) {z : Int} (hz : findZ R C ms fr to_ ban ((ms.length : Nat) : Int) = ([], z)) (hz0 : z ≠ 0) :
    Calls Tryd.prog 7 #[.string s, .int .i64 fr, .int .i64 to_, .slice B ban.length cb, .slice A k ck] w fun e w' => e = .returned (.bool true) ∧ Below w.heap.size w w' := by
  have HA := Lib.hid (ralive_any w hw)
  obtain ⟨m, hmm⟩ : ∃ m, m = ban.length := ⟨_, rfl⟩
  obtain ⟨N, hNN⟩ : ∃ N, N = ms.length := ⟨_, rfl⟩
  have hbm : ban.length ≤ maxLen := by unfold maxLen; omega
  have HP := Lib.hid hG.parse
  have HC : Hid (∀ b g cap W, M1 w b g cap R C ms W → Calls Tryd.prog 28 #[.pointer (some ⟨b, 0, none⟩)] W fun e w' => e = .returned (.int .i64 (N : Int)) ∧ W = w') := fun b g cap W h => m1_cells h hNN.symm
  have HFi : Hid (∀ b g cap W, M1 w b g cap R C ms W → Calls Tryd.prog 14 #[.pointer (some ⟨b, 0, none⟩), .int .i64 fr, .int .i64 to_, .slice B m cb, .int .i64 (N : Int)] W fun e w' => ∃ a c, e = .returned (.tuple #[.slice a 0 c, .int .i64 z]) ∧ (M1 w b g cap R C ms w' ∧ LstN b w' (.slice a 0 c) [] ∧ W.grownBy w' (some b))) := fun b g cap W h => m1_find h (h.ints hB) hmm.symm hbm (by rw [hNN]; exact hz) rfl
  have hz1 : (z != 0) = true := by simpa using hz0
  rw [← hmm] at hm ⊢
  clear hw hB hG hz hz0 hmm hNN
  go_enter Tryd.func7, Tryd.ntmps7
  go_wp2_with (first
    | (go_at_call 26; (with_reducible refine HA.out.mono ?_); rintro e w1 ⟨rfl, hb⟩)
    | (go_at_call 12; (with_reducible refine (HP.out w1 hb).mono ?_); rintro e w2 ⟨b, g, cap, rfl, hm2⟩; have H2 := Lib.hid hm2; clear hm2)
    | (go_at_call 28; (with_reducible refine (HC.out _ _ _ _ H2.out).mono ?_); rintro e w' ⟨rfl, rfl⟩)
    | (go_at_call 14; (with_reducible refine (HFi.out _ _ _ _ H2.out).mono ?_); rintro e w3 ⟨a3, c3, rfl, hm3⟩; have H3 := Lib.hid hm3.1; clear hm3))
  go_ret
  exact ⟨rfl, H3.out.bl⟩
end Go.Proofs.YtkedjnhidfnlkaaDoor
