/- Joined texts: Sh0, Sh1, Sh2. -/
import Derived.Test.YtkedjnhidfnlkaaDoorRn1

/-
  RouteShort: what the law asks of routes; has, without.
-/
namespace Go.Proofs.YtkedjnhidfnlkaaDoor
set_option maxRecDepth 100000
set_option linter.unusedSimpArgs false
open Go Go.RowKit Rq

section
variable {R C : Nat} {ms : List UInt8} {ban : List Int} {fr to_ D : Nat}
theorem may_iff (ban : List Int) (fr : Nat) : ∀ y, mayZ ban fr y = true ↔ (banF ban y = false ∨ y = fr) := by
  intro y
  unfold mayZ banF
  simp
theorem outsN (hN : R * C = ms.length) : ∀ x y, y ∈ outs R C ms x → y < ms.length := fun x y h => by rw [← hN]; exact outs_bd h
theorem dsZ_some (ht : to_ < ms.length) {x : Nat} : dsZ R C ms ban fr to_ x = some D ↔ Ds (ins R C ms) (mayZ ban fr) to_ D x := dsO_some ht (bkN R C ms)
theorem dsZ_none (ht : to_ < ms.length) {x : Nat} : dsZ R C ms ban fr to_ x = none ↔ ∀ n, ¬ Wy (ins R C ms) (mayZ ban fr) to_ n x := dsO_none ht (bkN R C ms)
theorem dsZ_lt (ht : to_ < ms.length) {x : Nat} (h : dsZ R C ms ban fr to_ x = some D) : D < ms.length := ((dsZ_some ht).1 h).lt ht (fun _ _ hb => (ins_mem.1 hb).1)

/-- Find with a budget that is never too small. -/
theorem find_none_ (hf : freeB ms (fr : Int) = true) (hf2 : freeB ms (to_ : Int) = true) (h : dsZ R C ms ban fr to_ fr = none) {bud : Int} (hb : (ms.length : Int) ≤ bud) : findZ R C ms (fr : Int) (to_ : Int) ban bud = ([], 40) := by
  unfold findZ
  have h1 := looksN_le R C ms ban fr to_
  rw [hf, hf2, if_pos (by rfl), if_neg (by simp only [Int.toNat_natCast]; omega)]
  simp only [Int.toNat_natCast, h]
theorem find_some_ (hf : freeB ms (fr : Int) = true) (hf2 : freeB ms (to_ : Int) = true) (h : dsZ R C ms ban fr to_ fr = some D) {bud : Int} (hb : (ms.length : Int) ≤ bud) : findZ R C ms (fr : Int) (to_ : Int) ban bud = (routeZ R C ms ban fr to_ D, 0) := by
  unfold findZ
  have h1 := looksN_le R C ms ban fr to_
  rw [hf, hf2, if_pos (by rfl), if_neg (by simp only [Int.toNat_natCast]; omega)]
  simp only [Int.toNat_natCast, h]
theorem find_two_ (hf : (freeB ms (fr : Int) && freeB ms (to_ : Int)) = false) {bud : Int} : findZ R C ms (fr : Int) (to_ : Int) ban bud = ([], 2) := by
  unfold findZ
  rw [hf]
  rfl

/-- Whether the end is around the beginning. -/
theorem near_iff (hN : R * C = ms.length) (hfr : fr < ms.length) (ht : to_ < ms.length) (hf : freeB ms (fr : Int) = true) {far : Int} {l : List Nat} (h : ArL R C ms (fr : Int) far ban l) : to_ ∈ l ↔ ∃ D, dsZ R C ms ban fr to_ fr = some D ∧ (D : Int) ≤ far := by
  by_cases h0 : far < 0
  · rw [h.1 (.inr h0)]
    constructor
    · intro h1; simp at h1
    · rintro ⟨D, _, h2⟩; omega
  · have h1 := (h.2 hf (by omega)).2 to_
    rw [h1]
    simp only [Int.toNat_natCast]
    constructor
    · rintro ⟨n, hn, hw⟩
      have hwy : Wy (ins R C ms) (mayZ ban fr) to_ n fr := hw.wy (bkN R C ms) hfr (outsN hN) (may_iff ban fr)
      obtain ⟨m, hm, hd⟩ := hwy.ds
      exact ⟨m, (dsZ_some ht).2 hd, by omega⟩
    · rintro ⟨D, hD, hle⟩
      exact ⟨D, by omega, ((dsZ_some ht).1 hD).to_fw (bkN R C ms) (may_iff ban fr)⟩

theorem routeZ_len : (routeZ R C ms ban fr to_ D).length = D + 1 := pthR_len D fr
theorem routeZ_head : (routeZ R C ms ban fr to_ D).getD 0 0 = fr := pthR_head D fr
theorem routeZ_last (ht : to_ < ms.length) (h : dsZ R C ms ban fr to_ fr = some D) : (routeZ R C ms ban fr to_ D).getD D 0 = to_ := pthR_last ht (bkN R C ms) ((dsZ_some ht).1 h)
theorem routeZ_lt (ht : to_ < ms.length) (h : dsZ R C ms ban fr to_ fr = some D) {i : Nat} (hi : i ≤ D) : (routeZ R C ms ban fr to_ D).getD i 0 < ms.length :=
  ((pthR_at ht (bkN R C ms) ((dsZ_some ht).1 h) i hi).1.1).lt ht (fun _ _ hb => (ins_mem.1 hb).1)

theorem intsQ_get {l : List Nat} {i : Nat} (hi : i < l.length) : (intsQ l).getD i 0 = ((l.getD i 0 : Nat) : Int) := by simp [intsQ, List.getD, hi]
/-- A route is one, by Check's rule. -/
theorem route_ok (ht : to_ < ms.length) (hf : freeB ms (fr : Int) = true) (hf2 : freeB ms (to_ : Int) = true) (h : dsZ R C ms ban fr to_ fr = some D) : checkZ R C ms (intsQ (routeZ R C ms ban fr to_ D)) (ban.filter (fun x => x != (fr : Int))) = 0 := by
  have hl : (intsQ (routeZ R C ms ban fr to_ D)).length = D + 1 := by rw [intsQ_length, routeZ_len]
  have hg : ∀ i, i ≤ D → (intsQ (routeZ R C ms ban fr to_ D)).getD i 0 = (((routeZ R C ms ban fr to_ D).getD i 0 : Nat) : Int) := fun i hi => intsQ_get (by rw [routeZ_len]; omega)
  have hDs := (dsZ_some ht).1 h
  unfold checkZ
  rw [if_neg, if_pos]
  · rw [List.all_eq_true]
    intro i hi
    rw [List.mem_range, hl] at hi
    have hi' : i < D := by omega
    unfold stepB
    rw [hg i (by omega), hg (i + 1) (by omega)]
    have h1 := routeZ_lt (ban := ban) (fr := fr) ht h (i := i) (by omega)
    have h2 := pthR_step ht (bkN R C ms) hDs i hi'
    have h3 := (pthR_at ht (bkN R C ms) hDs (i + 1) (by omega)).1.1.last
    rw [may_iff] at h3
    have hnx : nextZ R C ms (((routeZ R C ms ban fr to_ D).getD i 0 : Nat) : Int) = outs R C ms ((routeZ R C ms ban fr to_ D).getD i 0) := by
      unfold nextZ; rw [if_pos (by omega)]; rfl
    rw [hnx, Bool.and_eq_true]
    refine ⟨List.any_eq_true.2 ⟨_, h2, by simp [routeZ]⟩, ?_⟩
    rw [Bool.not_eq_true', decide_eq_false_iff_not, List.mem_filter]
    rintro ⟨h4, h5⟩
    rcases h3 with h3 | h3
    · unfold banF at h3
      rw [decide_eq_false_iff_not] at h3
      exact h3 h4
    · rw [show (routeZ R C ms ban fr to_ D).getD (i + 1) 0 = fr from h3] at h5
      simp at h5
  · rw [hl, hg 0 (by omega), routeZ_head, show D + 1 - 1 = D by omega, hg D (by omega), routeZ_last ht h, hf, hf2]
    simp
end

/-! has -/
theorem has_list {w : World} {u : Value} {l : List Nat} (h : Lst w u l) (hl : l.length ≤ 100000) (x : Int) :
    Calls Tryd.prog 29 #[u, .int .i64 x] w fun e w' => e = .returned (.bool (l.any (fun y => (y : Int) == x))) ∧ w = w' := by
  obtain ⟨a, c, rfl, hc⟩ := h
  have HC := Lib.hid hc
  obtain ⟨n, hn⟩ : ∃ n, n = l.length := ⟨_, rfl⟩
  have HN := Lib.hid hn
  rw [← hn] at hl ⊢
  clear hc hn
  go_enter Tryd.func29, Tryd.ntmps29
  go_wp2
  go_loopw [5] (fun u wr => w = wr ∧ ∃ k : Nat, k ≤ n ∧ u = .int .i64 (k : Int) ∧ (l.take k).any (fun y => (y : Int) == x) = false) (fun u _ => n - (intOf u).toNat)
  case atStart => exact ⟨rfl, 0, Nat.zero_le _, rfl, by simp⟩
  case round =>
    obtain ⟨rfl, k, hk, rfl, hno⟩ := hrel
    have HNo := Lib.hid hno
    clear hno
    by_cases hlt : k < n
    · have hkl : k < l.length := by rw [← HN.out]; exact hlt
      obtain ⟨g, rfl, fg⟩ := HC.out k hkl
      have HTk : Hid (l.take (k + 1) = l.take k ++ [l.getD k 0]) := by
        show _ = _
        rw [List.take_succ_eq_append_getElem hkl]
        simp [List.getD, hkl]
      have HMem : Hid (l.getD k 0 ∈ l) := by
        show _ ∈ _
        rw [show l.getD k 0 = l[k] by simp [List.getD, hkl]]
        exact List.getElem_mem hkl
      generalize l.getD k 0 = y at *
      have k0 : (0 : Int) ≤ (k : Int) := by omega
      have k1 : (k : Int) < (n : Int) := by omega
      clear hkl
      by_cases e : (y : Int) = x
      · have e1 : ((y : Int) == x) = true := by simp [e]
        have HF : Hid (l.any (fun y => (y : Int) == x) = true) := List.any_eq_true.2 ⟨y, HMem.out, e1⟩
        clear e
        go_wp2
        go_ret
        rw [HF.out]
        exact ⟨rfl, rfl⟩
      · have e1 : ((y : Int) == x) = false := by simp [e]
        have HF : Hid (w = w ∧ ∃ k' : Nat, k' ≤ n ∧ Value.int .i64 ((k : Int) + 1) = .int .i64 (k' : Int) ∧ (l.take k').any (fun y => (y : Int) == x) = false) := ⟨rfl, k + 1, by omega, by go_num, by rw [HTk.out, List.any_append, HNo.out]; simp [e]⟩
        clear e
        go_wp2
        go_roundw
        case rel => exact ⟨trivial, HF.out.2⟩
        case measure => simp [intOf]; omega
    · obtain rfl : k = n := by omega
      have HF : Hid (l.any (fun y => (y : Int) == x) = false) := by
        have := HNo.out
        rw [List.take_of_length_le (by rw [← HN.out]; exact Nat.le_refl _)] at this
        exact this
      go_wp2
      go_ret
      rw [HF.out]
      exact ⟨rfl, rfl⟩

/-! without -/
def intW (x : Int) : Value := .int .i64 x
def WithR (w : World) (l : List Int) (x : Int) (v : Value) (wr : World) (k : Nat) : Prop :=
  wr.ownsRow w.heap.size 3 1 v ((l.take k).filter (fun y => y != x)).length (((l.take k).filter (fun y => y != x)).map intW) ∧ Below w.heap.size w wr
def WithoutP (w : World) (l : List Int) (x : Int) (e : Ending) (w' : World) : Prop :=
  ∃ A c, e = .returned (.slice A (l.filter (fun y => y != x)).length c) ∧ IntsAt w' A (l.filter (fun y => y != x)) ∧ (l.filter (fun y => y != x)).length ≤ c ∧ Below w.heap.size w w'
theorem without_end {w wr : World} {l : List Int} {x : Int} {v : Value} (h : WithR w l x v wr l.length) : WithoutP w l x (.returned v) wr := by
  obtain ⟨ho, hb⟩ := h
  rw [List.take_length] at ho
  rcases ho.2 with ⟨rfl, h0⟩ | ⟨g, cap, cur, rfl, h1, h2, h3, _⟩
  · exact ⟨none, 0, by rw [h0], fun j hj => by omega, by omega, hb⟩
  · refine ⟨some ⟨g, 0, none⟩, cap, rfl, fun j hj => ⟨_, rfl, blk_lt h2, ?_⟩, h3, hb⟩
    have : Addr.add ⟨g, 0, none⟩ j = ⟨g, j, none⟩ := by simp [Addr.add]; omega
    rw [this, ho.cellAt j (by omega)]
    simp [intW, List.getD, hj]

set_option maxHeartbeats 2000000 in
theorem without_any {w : World} {A : Option Addr} {l : List Int} {cap : Nat} (hA : IntsAt w A l) (hl : l.length ≤ 100000) (x : Int) :
    Calls Tryd.prog 30 #[.slice A l.length cap, .int .i64 x] w (WithoutP w l x) := by
  have HA := Lib.hid hA
  have HE : Hid (∀ v wr, WithR w l x v wr l.length → WithoutP w l x (.returned v) wr) := fun v wr h => without_end h
  obtain ⟨n, hn⟩ : ∃ n, n = l.length := ⟨_, rfl⟩
  have HN := Lib.hid hn
  rw [← hn] at hl HE ⊢
  obtain ⟨i0, hi0, hz0, hz1, hz2⟩ := info_parts Tryd.infoInt
  clear hA hn
  go_enter Tryd.func30, Tryd.ntmps30
  go_wp2
  go_loopw [5, 6] (fun v u wr => ∃ k : Nat, k ≤ n ∧ u = .int .i64 (k : Int) ∧ WithR w l x v wr k) (fun _ u _ => n - (intOf u).toNat)
  case atStart => exact ⟨0, Nat.zero_le _, rfl, World.ownsRow_nil _ _ _ _, Below.refl _ _⟩
  case round =>
    obtain ⟨k, hk, rfl, ho, hb⟩ := hrel
    have HO := Lib.hid ho
    have HB := Lib.hid hb
    clear ho hb
    by_cases hlt : k < n
    · have hkl : k < l.length := by rw [← HN.out]; exact hlt
      obtain ⟨a, rfl, ha, fa⟩ := (HA.out.below HB.out (Nat.le_refl _)) k hkl
      have HTk : Hid (l.take (k + 1) = l.take k ++ [l.getD k 0]) := by
        show _ = _
        rw [List.take_succ_eq_append_getElem hkl]
        simp [List.getD, hkl]
      generalize l.getD k 0 = y at *
      have k0 : (0 : Int) ≤ (k : Int) := by omega
      have k1 : (k : Int) < (n : Int) := by omega
      have hfl := List.length_filter_le (fun y => y != x) (l.take k)
      rw [List.length_take] at hfl
      have HFl : Hid (((l.take k).filter (fun y => y != x)).length ≤ k) := by show _ ≤ _; omega
      clear hkl hfl
      by_cases e : y = x
      · have e1 : (y != x) = false := by simp [e]
        have HF : Hid (∃ k' : Nat, k' ≤ n ∧ Value.int .i64 ((k : Int) + 1) = .int .i64 (k' : Int) ∧ WithR w l x u5 wr k') := by
          refine ⟨k + 1, by omega, by go_num, ?_, HB.out⟩
          rw [HTk.out, List.filter_append]
          simp only [List.filter_cons, e1, List.filter_nil, List.append_nil, Bool.false_eq_true, if_false]
          exact HO.out
        clear e
        go_wp2
        go_roundw
        case rel => exact HF.out
        case measure => simp [intOf]; omega
      · have e1 : (y != x) = true := by simp [e]
        have HF : Hid (∀ v' w', w'.ownsRow w.heap.size 3 1 v' (((l.take k).filter (fun y => y != x)).length + 1) (((l.take k).filter (fun y => y != x)).map intW ++ [intW y]) → Below w.heap.size w w' → ∃ k' : Nat, k' ≤ n ∧ Value.int .i64 ((k : Int) + 1) = .int .i64 (k' : Int) ∧ WithR w l x v' w' k') := by
          intro v' w' h1 h2
          refine ⟨k + 1, by omega, by go_num, ?_, h2⟩
          rw [HTk.out, List.filter_append]
          simp only [List.filter_cons, e1, List.filter_nil, if_true, List.length_append, List.length_cons, List.length_nil, List.map_append, List.map_cons, List.map_nil]
          exact h1
        have HNe := Lib.hid (World.news_of_block (heap_alloc_new wr (.cells #[.int .i64 y] 3)))
        have HS := HB.out.size
        clear e
        generalize hm : ((l.take k).filter (fun y => y != x)).length = m at *
        generalize ((l.take k).filter (fun y => y != x)).map intW = xs at *
        have hmk := HFl.out
        clear hm
        go_wp2_with (at_builtin; refine wpList_append_lies _ rfl (.tmp 19) (.tmp 24) 22 rfl w.heap.size 3 i0 (.int .i64 0) 1 8 Tryd.underlying22 hi0 hz0 hz1 hz2 rfl (by decide) u5 m xs rfl (HO.out.alloc _) ⟨wr.heap.size, 0, none⟩ 1 1 [.int .i64 y] rfl rfl (by have := HNe.out; simpa using this) (by intro u hu; simp at hu; subst hu; rfl) (by decide) (by unfold maxLen; omega) (by omega) (by simp; omega) (wr.heap.size + 1) (by simp) ?_; intro g2 cap5 w5 ho5 hg5 hat5 hlt5; have HQ := Lib.hid (HF.out _ w5 ho5 ((HB.out.alloc HS _).grown hg5 (by simp; omega) (fun k hk => (HO.out.lt k hk).1))); clear ho5 hg5 hat5 hlt5)
        go_roundw
        case rel => exact HQ.out
        case measure => simp [intOf]; omega
    · obtain rfl : k = n := by omega
      have HF := Lib.hid (HE.out u5 wr ⟨HO.out, HB.out⟩)
      clear HO HB
      go_wp2
      go_ret
      exact HF.out
end Go.Proofs.YtkedjnhidfnlkaaDoor

/-
  The walk of the law RouteShort.
-/
namespace Go.Proofs.YtkedjnhidfnlkaaDoor
set_option maxRecDepth 100000
set_option linter.unusedSimpArgs false
open Go Go.RowKit Rq

/-- Parse, whatever the text. -/
def ParseSome (w : World) (e : Ending) (w' : World) : Prop := ∃ p l c z, e = .returned (.tuple #[p, .int .i64 l, .int .i64 c, .int .i64 z]) ∧ Below w.heap.size w w'
theorem parse_some (s : ByteArray) (w : World) (hs : s.size ≤ maxLen) : Calls Tryd.prog 12 #[.string s] w (ParseSome w) := by
  refine (parse_any s w (by unfold maxLen at hs; omega)).mono ?_
  rintro e w' ⟨h1, h2⟩
  cases hv : Pure.verdict s.data.toList with
  | bad l c =>
    rw [hv] at h2
    exact ⟨_, _, _, _, h2, h1⟩
  | good L =>
    rw [hv] at h2
    obtain ⟨g, cap, h3, h4⟩ := h2
    exact ⟨_, _, _, _, h3, h1⟩
/-- Parse of a map's text. -/
def ParseGood (w : World) (L : List (List UInt8)) (e : Ending) (w' : World) : Prop := ∃ b g cap, e = .returned (.tuple #[.pointer (some ⟨b, 0, none⟩), .int .i64 0, .int .i64 0, .int .i64 0]) ∧ MapAt w' b g cap L ∧ Below w.heap.size w w' ∧ w.heap.size ≤ b
theorem parse_good {s : ByteArray} {L : List (List UInt8)} (hv : Pure.verdict s.data.toList = .good L) (w : World) (hs : s.size ≤ maxLen) : Calls Tryd.prog 12 #[.string s] w (ParseGood w L) := by
  refine (parse_any s w (by unfold maxLen at hs; omega)).mono ?_
  rintro e w' ⟨h1, h2⟩
  rw [hv] at h2
  obtain ⟨g, cap, h3, h4⟩ := h2
  exact ⟨_, g, cap, h3, h4, h1, Nat.le_refl _⟩
theorem parse_bad {s : ByteArray} {l c : Nat} (hv : Pure.verdict s.data.toList = .bad l c) (w : World) (hs : s.size ≤ maxLen) : Calls Tryd.prog 12 #[.string s] w fun e w' => e = .returned (.tuple #[.pointer none, .int .i64 (l : Int), .int .i64 (c : Int), .int .i64 10]) ∧ Below w.heap.size w w' := by
  refine (parse_any s w (by unfold maxLen at hs; omega)).mono ?_
  rintro e w' ⟨h1, h2⟩
  rw [hv] at h2
  exact ⟨h2, h1⟩
/-- A map that was parsed behind the laws' example. -/
theorem m1_parsed {w w1 w2 : World} {b g cap : Nat} {L : List (List UInt8)} (hw : Ways w) (hG : Pure.Good L) (hb : Below w.heap.size w w1) (hm : MapAt w2 b g cap L) (hb2 : Below w1.heap.size w1 w2) (hbl : w1.heap.size ≤ b) : M1 w b g cap L.length (Pure.wid L) L.flatten w2 :=
  m1_start (w := w) hw hG hm (hb.trans (hb2.mono hb.size)) (Nat.le_trans hb.size hbl)
theorem good_flat {L : List (List UInt8)} (hG : Pure.Good L) : 0 < L.flatten.length := by
  rw [hG.size]
  exact Nat.mul_pos (List.length_pos_iff.2 hG.ne) hG.lo

set_option maxHeartbeats 1000000 in
theorem sh_out (s : ByteArray) (fr to_ : Int) (B : Option Addr) (m cb : Nat) (w : World) (hw : Ways w) (hs : s.size ≤ maxLen) (h : 600 < s.size ∨ 100 < m) :
    Calls Tryd.prog 6 #[.string s, .int .i64 fr, .int .i64 to_, .slice B m cb] w fun e w' => e = .returned (.bool true) ∧ Below w.heap.size w w' := by
  have HA := Lib.hid (ralive_any w hw)
  have HP : Hid (∀ w, Calls Tryd.prog 12 #[.string s] w (ParseSome w)) := fun w => parse_some s w hs
  clear hw hs
  by_cases h1 : 600 < s.size
  · clear h
    go_enter Tryd.func6, Tryd.ntmps6
    go_wp2_with (first
      | (go_at_call 26; (with_reducible refine HA.out.mono ?_); rintro e w1 ⟨rfl, hb⟩)
      | (go_at_call 12; (with_reducible refine (HP.out _).mono ?_); rintro e w2 ⟨p, l, c, z, rfl, hb2⟩))
    go_ret
    exact ⟨rfl, hb.trans (hb2.mono hb.size)⟩
  · have h2 : 100 < m := h.resolve_left h1
    have h3 : s.size ≤ 600 := Nat.le_of_not_lt h1
    clear h h1
    go_enter Tryd.func6, Tryd.ntmps6
    go_wp2_with (first
      | (go_at_call 26; (with_reducible refine HA.out.mono ?_); rintro e w1 ⟨rfl, hb⟩)
      | (go_at_call 12; (with_reducible refine (HP.out _).mono ?_); rintro e w2 ⟨p, l, c, z, rfl, hb2⟩))
    go_ret
    exact ⟨rfl, hb.trans (hb2.mono hb.size)⟩

set_option maxHeartbeats 1000000 in
theorem sh_bad (s : ByteArray) (fr to_ : Int) (B : Option Addr) (m cb : Nat) (w : World) (hw : Ways w) (hs : s.size ≤ 600) (hm : m ≤ 100) {l c : Nat} (hv : Pure.verdict s.data.toList = .bad l c) :
    Calls Tryd.prog 6 #[.string s, .int .i64 fr, .int .i64 to_, .slice B m cb] w fun e w' => e = .returned (.bool true) ∧ Below w.heap.size w w' := by
  have HA := Lib.hid (ralive_any w hw)
  have HP := Lib.hid (fun w => parse_bad hv w (by unfold maxLen; omega))
  clear hw hv
  go_enter Tryd.func6, Tryd.ntmps6
  go_wp2_with (first
    | (go_at_call 26; (with_reducible refine HA.out.mono ?_); rintro e w1 ⟨rfl, hb⟩)
    | (go_at_call 12; (with_reducible refine (HP.out _).mono ?_); rintro e w2 ⟨rfl, hb2⟩))
  go_ret
  exact ⟨rfl, hb.trans (hb2.mono hb.size)⟩

set_option maxHeartbeats 4000000 in
theorem sh_wall (s : ByteArray) (fr to_ : Int) (B : Option Addr) (m cb : Nat) (w : World) (hw : Ways w) (hs : s.size ≤ 600) (hm : m ≤ 100) {L : List (List UInt8)} (hv : Pure.verdict s.data.toList = .good L) (hf : (freeB L.flatten fr && freeB L.flatten to_) = false) :
    Calls Tryd.prog 6 #[.string s, .int .i64 fr, .int .i64 to_, .slice B m cb] w fun e w' => e = .returned (.bool true) ∧ Below w.heap.size w w' := by
  have HA := Lib.hid (ralive_any w hw)
  have HP := Lib.hid (fun w => parse_good hv w (by unfold maxLen; omega))
  have HM : Hid (∀ w1 w2 b g cap, Below w.heap.size w w1 → MapAt w2 b g cap L → Below w1.heap.size w1 w2 → w1.heap.size ≤ b → M1 w b g cap L.length (Pure.wid L) L.flatten w2) := fun _ _ _ _ _ a b c d => m1_parsed hw (Pure.good_of hv).1 a b c d
  have HF : Hid (∀ b g cap R C W, M1 w b g cap R C L.flatten W → ∀ i, Calls Tryd.prog 27 #[.pointer (some ⟨b, 0, none⟩), .int .i64 i] W fun e w' => e = .returned (.bool (freeB L.flatten i)) ∧ W = w') := fun b g cap R C W h i => free_any b g cap _ i W h.em.c2 (fun j hj => h.em.mark j hj)
  clear hw hv
  cases h1 : freeB L.flatten fr with
  | false =>
    have HF1 : Hid (∀ b g cap R C W, M1 w b g cap R C L.flatten W → Calls Tryd.prog 27 #[.pointer (some ⟨b, 0, none⟩), .int .i64 fr] W fun e w' => e = .returned (.bool false) ∧ W = w') := fun b g cap R C W h => by rw [← h1]; exact HF.out b g cap R C W h fr
    clear hf h1 HF
    go_enter Tryd.func6, Tryd.ntmps6
    go_wp2_with (first
      | (go_at_call 26; (with_reducible refine HA.out.mono ?_); rintro e w1 ⟨rfl, hb⟩)
      | (go_at_call 12; (with_reducible refine (HP.out _).mono ?_); rintro e w2 ⟨b, g, cap, rfl, hq1, hq2, hq3⟩; have H2 := Lib.hid (HM.out _ _ _ _ _ hb hq1 hq2 hq3); clear hq1 hq2 hq3)
      | (go_at_call 27; (with_reducible refine (HF1.out _ _ _ _ _ _ H2.out).mono ?_); rintro e w' ⟨rfl, rfl⟩))
    go_ret
    exact ⟨rfl, H2.out.bl⟩
  | true =>
    rw [h1, Bool.true_and] at hf
    have HF1 : Hid (∀ b g cap R C W, M1 w b g cap R C L.flatten W → Calls Tryd.prog 27 #[.pointer (some ⟨b, 0, none⟩), .int .i64 fr] W fun e w' => e = .returned (.bool true) ∧ W = w') := fun b g cap R C W h => by rw [← h1]; exact HF.out b g cap R C W h fr
    have HF2 : Hid (∀ b g cap R C W, M1 w b g cap R C L.flatten W → Calls Tryd.prog 27 #[.pointer (some ⟨b, 0, none⟩), .int .i64 to_] W fun e w' => e = .returned (.bool false) ∧ W = w') := fun b g cap R C W h => by rw [← hf]; exact HF.out b g cap R C W h to_
    have hne : fr ≠ to_ := fun e => by rw [e, hf] at h1; cases h1
    clear hf h1 HF
    go_enter Tryd.func6, Tryd.ntmps6
    go_wp2_with (first
      | (go_at_call 26; (with_reducible refine HA.out.mono ?_); rintro e w1 ⟨rfl, hb⟩)
      | (go_at_call 12; (with_reducible refine (HP.out _).mono ?_); rintro e w2 ⟨b, g, cap, rfl, hq1, hq2, hq3⟩; have H2 := Lib.hid (HM.out _ _ _ _ _ hb hq1 hq2 hq3); clear hq1 hq2 hq3)
      | (go_at_call 27; (with_reducible refine (HF1.out _ _ _ _ _ _ H2.out).mono ?_); rintro e w' ⟨rfl, rfl⟩)
      | (go_at_call 27; (with_reducible refine (HF2.out _ _ _ _ _ _ H2.out).mono ?_); rintro e w' ⟨rfl, rfl⟩))
    go_ret
    exact ⟨rfl, H2.out.bl⟩
end Go.Proofs.YtkedjnhidfnlkaaDoor

/-
  The walk of the law RouteShort: both ends are free.
-/
namespace Go.Proofs.YtkedjnhidfnlkaaDoor
set_option maxRecDepth 100000
set_option linter.unusedSimpArgs false
open Go Go.RowKit Rq

/-- A map in memory, its text's. -/
structure Got (s : ByteArray) (w : World) (R C : Nat) (ms : List UInt8) : Prop where
  pos : 0 < ms.length
  small : ms.length ≤ 1024
  hN : R * C = ms.length
  parse : ∀ w1, Below w.heap.size w w1 → Calls Tryd.prog 12 #[.string s] w1 fun e w' => ∃ b g cap, e = .returned (.tuple #[.pointer (some ⟨b, 0, none⟩), .int .i64 0, .int .i64 0, .int .i64 0]) ∧ M1 w b g cap R C ms w'
theorem got_of {s : ByteArray} {w : World} (hw : Ways w) (hs : s.size ≤ maxLen) {L : List (List UInt8)} (hv : Pure.verdict s.data.toList = .good L) : Got s w L.length (Pure.wid L) L.flatten := by
  have hG := (Pure.good_of hv).1
  refine ⟨good_flat hG, ?_, hG.size.symm, fun w1 hb => ?_⟩
  · have h1 := hG.size
    have h2 := Nat.mul_le_mul hG.len hG.hi
    omega
  · refine (parse_good hv w1 hs).mono ?_
    rintro e w' ⟨b, g, cap, rfl, h1, h2, h3⟩
    exact ⟨b, g, cap, rfl, m1_parsed hw hG hb h1 h2 h3⟩
theorem m1_free {w0 w : World} {bm gm cm R C : Nat} {ms : List UInt8} (h : M1 w0 bm gm cm R C ms w) {i : Int} {b : Bool} (hi : freeB ms i = b) : Calls Tryd.prog 27 #[.pointer (some ⟨bm, 0, none⟩), .int .i64 i] w fun e w' => e = .returned (.bool b) ∧ w = w' := by
  rw [← hi]
  exact free_any bm gm cm ms i w h.em.c2 (fun j hj => h.em.mark j hj)
theorem m1_cells {w0 w : World} {bm gm cm R C : Nat} {ms : List UInt8} (h : M1 w0 bm gm cm R C ms w) {N : Nat} (hN : ms.length = N) : Calls Tryd.prog 28 #[.pointer (some ⟨bm, 0, none⟩)] w fun e w' => e = .returned (.int .i64 (N : Int)) ∧ w = w' := by
  rw [← hN]
  exact cells_any bm _ _ _ w h.em.c2
theorem M1.ints {w0 w : World} {bm gm cm R C : Nat} {ms : List UInt8} {B : Option Addr} {l : List Int} (h : M1 w0 bm gm cm R C ms w) (hB : IntsAt w0 B l) : IntsAt w B l := hB.below h.bl (Nat.le_refl _)

/-- What has tells of what is near. -/
theorem any_near {l : List Nat} {t : Nat} {b : Bool} (h : t ∈ l ↔ b = true) : l.any (fun y => (y : Int) == (t : Int)) = b := by
  rw [Bool.eq_iff_iff, ← h, List.any_eq_true]
  constructor
  · rintro ⟨y, h1, h2⟩
    have : y = t := by
      have := eq_of_beq h2
      omega
    rw [← this]; exact h1
  · intro h1
    exact ⟨t, h1, by simp⟩

/-- Around, asked of the end: has's answer. -/
theorem m1_near {w0 w : World} {bm gm cm R C : Nat} {ms : List UInt8} (h : M1 w0 bm gm cm R C ms w) (hp : 0 < ms.length) {B : Option Addr} {ban : List Int} (hB : IntsAt w B ban) {m cb : Nat} (hm : ban.length = m) (hbm : ban.length ≤ maxLen) {fr to_ : Nat} (hN : R * C = ms.length) (hfr : fr < ms.length) (ht : to_ < ms.length) (hf : freeB ms (fr : Int) = true) {far : Int} (hfm : far ≤ 9223372036854775807) {b : Bool} (hb : (∃ D, dsZ R C ms ban fr to_ fr = some D ∧ (D : Int) ≤ far) ↔ b = true) :
    Calls Tryd.prog 23 #[.pointer (some ⟨bm, 0, none⟩), .int .i64 (fr : Int), .slice B m cb, .int .i64 far] w fun e w' => ∃ u, e = .returned u ∧ (M1 w0 bm gm cm R C ms w' ∧ w.grownBy w' (some bm) ∧ Calls Tryd.prog 29 #[u, .int .i64 (to_ : Int)] w' fun e w'' => e = .returned (.bool b) ∧ w' = w'') := by
  refine (m1_around h hp hB hm hbm hfm).mono ?_
  rintro e w' ⟨a, c, l, rfl, ⟨h1, h2, h3⟩, h4, h5⟩
  refine ⟨_, rfl, h1, h3, ?_⟩
  have := has_list h2.lst h5 (to_ : Int)
  rw [any_near ((near_iff hN hfr ht hf h4).trans hb)] at this
  exact this

set_option maxHeartbeats 4000000 in
theorem sh_none (s : ByteArray) (fr to_ : Nat) (B : Option Addr) (ban : List Int) (cb : Nat) (w : World) (hw : Ways w) (hs : s.size ≤ 600) (hm : ban.length ≤ 100) (hB : IntsAt w B ban) {R C : Nat} {ms : List UInt8} (hG : Got s w R C ms) (hf : freeB ms (fr : Int) = true) (hf2 : freeB ms (to_ : Int) = true) (hfr : fr < ms.length) (ht : to_ < ms.length) (hD : dsZ R C ms ban fr to_ fr = none) :
    Calls Tryd.prog 6 #[.string s, .int .i64 (fr : Int), .int .i64 (to_ : Int), .slice B ban.length cb] w fun e w' => e = .returned (.bool true) ∧ Below w.heap.size w w' := by
  have HA := Lib.hid (ralive_any w hw)
  obtain ⟨m, hmm⟩ : ∃ m, m = ban.length := ⟨_, rfl⟩
  obtain ⟨N, hNN⟩ : ∃ N, N = ms.length := ⟨_, rfl⟩
  have hbm : ban.length ≤ maxLen := by unfold maxLen; omega
  have HP := Lib.hid hG.parse
  have HF1 : Hid (∀ b g cap W, M1 w b g cap R C ms W → Calls Tryd.prog 27 #[.pointer (some ⟨b, 0, none⟩), .int .i64 (fr : Int)] W fun e w' => e = .returned (.bool true) ∧ W = w') := fun b g cap W h => m1_free h hf
  have HF2 : Hid (∀ b g cap W, M1 w b g cap R C ms W → Calls Tryd.prog 27 #[.pointer (some ⟨b, 0, none⟩), .int .i64 (to_ : Int)] W fun e w' => e = .returned (.bool true) ∧ W = w') := fun b g cap W h => m1_free h hf2
  have HC : Hid (∀ b g cap W, M1 w b g cap R C ms W → Calls Tryd.prog 28 #[.pointer (some ⟨b, 0, none⟩)] W fun e w' => e = .returned (.int .i64 (N : Int)) ∧ W = w') := fun b g cap W h => m1_cells h hNN.symm
  have HFi : Hid (∀ b g cap W, M1 w b g cap R C ms W → Calls Tryd.prog 14 #[.pointer (some ⟨b, 0, none⟩), .int .i64 (fr : Int), .int .i64 (to_ : Int), .slice B m cb, .int .i64 (N : Int)] W fun e w' => ∃ a c, e = .returned (.tuple #[.slice a 0 c, .int .i64 40]) ∧ (M1 w b g cap R C ms w' ∧ LstN b w' (.slice a 0 c) [] ∧ W.grownBy w' (some b))) := fun b g cap W h => m1_find h (h.ints hB) hmm.symm hbm (find_none_ hf hf2 hD (by omega)) rfl
  have HAr : Hid (∀ b g cap W, M1 w b g cap R C ms W → Calls Tryd.prog 23 #[.pointer (some ⟨b, 0, none⟩), .int .i64 (fr : Int), .slice B m cb, .int .i64 (N : Int)] W fun e w' => ∃ u, e = .returned u ∧ (M1 w b g cap R C ms w' ∧ W.grownBy w' (some b) ∧ Calls Tryd.prog 29 #[u, .int .i64 (to_ : Int)] w' fun e w'' => e = .returned (.bool false) ∧ w' = w'')) := fun b g cap W h =>
    m1_near h hG.pos (h.ints hB) hmm.symm hbm hG.hN hfr ht hf (by have := hG.small; omega) (by simp [hD])
  rw [← hmm] at hm ⊢
  clear hw hB hG hf hf2 hD hmm hNN
  go_enter Tryd.func6, Tryd.ntmps6
  go_wp2_with (first
    | (go_at_call 26; (with_reducible refine HA.out.mono ?_); rintro e w1 ⟨rfl, hb⟩)
    | (go_at_call 12; (with_reducible refine (HP.out w1 hb).mono ?_); rintro e w2 ⟨b, g, cap, rfl, hm2⟩; have H2 := Lib.hid hm2; clear hm2)
    | (go_at_call 27; (with_reducible refine (HF1.out _ _ _ _ H2.out).mono ?_); rintro e w' ⟨rfl, rfl⟩)
    | (go_at_call 27; (with_reducible refine (HF2.out _ _ _ _ H2.out).mono ?_); rintro e w' ⟨rfl, rfl⟩)
    | (go_at_call 28; (with_reducible refine (HC.out _ _ _ _ H2.out).mono ?_); rintro e w' ⟨rfl, rfl⟩)
    | (go_at_call 14; (with_reducible refine (HFi.out _ _ _ _ H2.out).mono ?_); rintro e w3 ⟨a3, c3, rfl, hm3⟩; have H3 := Lib.hid hm3.1; clear hm3)
    | (go_at_call 28; (with_reducible refine (HC.out _ _ _ _ H3.out).mono ?_); rintro e w' ⟨rfl, rfl⟩)
    | (go_at_call 23; (with_reducible refine (HAr.out _ _ _ _ H3.out).mono ?_); rintro e w4 ⟨u4, rfl, hm4⟩; have H4 := Lib.hid hm4; clear hm4)
    | (go_at_call 29; (with_reducible refine H4.out.2.2.mono ?_); rintro e w' ⟨rfl, rfl⟩))
  go_ret
  exact ⟨rfl, H4.out.1.bl⟩
end Go.Proofs.YtkedjnhidfnlkaaDoor
