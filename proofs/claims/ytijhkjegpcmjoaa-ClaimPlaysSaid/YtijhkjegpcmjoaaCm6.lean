/-
  ClaimPlays: whatever is taken and dropped.
-/
import Derived.Test.YtijhkjegpcmjoaaCm5
import Derived.Test.YtijhkjegpcmjoaaCli
import Derived.Deep.CutBlock
namespace Go.Proofs.Ytijhkjegpcmjoaa
set_option maxRecDepth 100000
set_option linter.unusedSimpArgs false
open Go Go.RowKit Cl

set_option maxHeartbeats 1000000 in
theorem rofn_any {w : World} {b : Nat} {s : List Cm} (h : RfAt w b s) (hs : Ok s) {hm r : Int} (hr1 : r < 1) :
    Calls Try.prog 14 #[.pointer (some ⟨b, 0, none⟩), .int .i64 hm, .int .i64 r] w (CmP w []) := by
  have HA := Lib.hid (rall_any h hs.okr (by have := hs.len; omega))
  have d9 : decide ((0 : Int) < r) = false := by simp; omega
  have HP : Hid (∀ V, Below w.heap.size w V → CmP w [] (.returned (.slice none 0 0)) V) := fun V hV => ⟨_, rfl, World.ownsRow_nil _ _ _ _, hV⟩
  obtain ⟨Q, hQ⟩ : ∃ Q : Ending → World → Prop, Q = CmP w [] := ⟨_, rfl⟩
  rw [← hQ] at HP ⊢
  clear h hs hQ hr1
  go_enter Try.func14, Try.ntmps14
  go_wp2_with fail
  refine HA.out.mono ?_
  rintro e W1 ⟨v1, rfl, hr, hb⟩
  obtain ⟨A, cap, rfl⟩ := row_isM hr
  have HF := Lib.hid (HP.out _ hb)
  clear hr hb HP HA
  by_cases hN : s.length = 0
  · rw [hN]
    go_wp2_with fail
    go_loopw [9, 7] (fun u v wr => u = .int .i64 0 ∧ v = .slice none 0 0 ∧ wr = W1) (fun _ _ _ => 0)
    case atStart => exact ⟨rfl, rfl, rfl⟩
    case round =>
      obtain ⟨rfl, rfl, rfl⟩ := hrel
      go_wp2
      first | exact HF.out | (go_ret; exact HF.out)
  · have d0 : decide ((0 : Int) < (s.length : Int)) = true := by simp; omega
    generalize s.length = N at *
    go_wp2_with fail
    go_loopw [9, 7] (fun u v wr => u = .int .i64 0 ∧ v = .slice none 0 0 ∧ wr = W1) (fun _ _ _ => 0)
    case atStart => exact ⟨rfl, rfl, rfl⟩
    case round =>
      obtain ⟨rfl, rfl, rfl⟩ := hrel
      go_wp2
      first | exact HF.out | (go_ret; exact HF.out)
theorem rofz_any {w : World} {b : Nat} {s : List Cm} (h : RfAt w b s) (hs : Ok s) {hm r : Int} (hr2 : r ≤ 9223372036854775807) :
    Calls Try.prog 14 #[.pointer (some ⟨b, 0, none⟩), .int .i64 hm, .int .i64 r] w (CmP w (ofZ s hm r)) := by
  unfold ofZ
  by_cases hr : r < 1
  · rw [if_pos hr]; exact rofn_any h hs hr
  · rw [if_neg hr]; exact rof_any h hs (by omega) hr2
/-- Both in memory, and a call. -/
structure PS (w : World) (b rb xb : Nat) (ox : Obj) (s t : List Cm) (V : World) : Prop where
  c : CAt V b s
  r : RfAt V rb t
  x : V.heap[xb]? = some ox
  hb : w.heap.size ≤ b
  hr : w.heap.size ≤ rb
  hx : w.heap.size ≤ xb
  n1 : b ≠ rb
  n2 : b ≠ xb
  n3 : rb ≠ xb
  bl : Below w.heap.size w V
section
variable {w V V' : World} {b rb xb : Nat} {ox : Obj} {s t s' t' : List Cm}
theorem PS.below (h : PS w b rb xb ox s t V) (k : Below V.heap.size V V') : PS w b rb xb ox s t V' :=
  ⟨h.c.below k, h.r.below k, (k.block xb (blk_lt h.x)).trans h.x, h.hb, h.hr, h.hx, h.n1, h.n2, h.n3, h.bl.trans (k.mono h.bl.size)⟩
theorem PS.ck (h : PS w b rb xb ox s t V) (k : Kept (fun k => k = b) V V') (c : CAt V' b s') : PS w b rb xb ox s' t V' :=
  ⟨c, h.r.blk (k.block rb h.r.lt (fun e => h.n1 e.symm)), (k.block xb (blk_lt h.x) (fun e => h.n2 e.symm)).trans h.x, h.hb, h.hr, h.hx, h.n1, h.n2, h.n3, h.bl.trans (k.below (fun i e => by have := h.hb; omega) h.bl.size)⟩
theorem PS.rk (h : PS w b rb xb ox s t V) (k : Kept (fun k => k = rb) V V') (r : RfAt V' rb t') : PS w b rb xb ox s t' V' :=
  ⟨h.c.kept k (fun e => h.n1 e), r, (k.block xb (blk_lt h.x) (fun e => h.n3 e.symm)).trans h.x, h.hb, h.hr, h.hx, h.n1, h.n2, h.n3, h.bl.trans (k.below (fun i e => by have := h.hr; omega) h.bl.size)⟩
theorem PS.ok (h : PS w b rb xb ox s t V) : Ok s := h.c.1
theorem PS.ctake (h : PS w b rb xb ox s t V) (c g : Int) (hg : 0 ≤ g ∧ g < 4294967296) :
    Calls Try.prog 9 #[.pointer (some ⟨b, 0, none⟩), .int .i64 c, .int .u32 g] V fun e w' => e = .returned (.int .i64 (takeE s c)) ∧ PS w b rb xb ox (takeL s ⟨c, g⟩) t w' :=
  (take_any (x := ⟨c, g⟩) h.c hg).mono fun _ _ ⟨q1, q2, q3⟩ => ⟨q1, h.ck q3 q2⟩
theorem PS.rtake (h : PS w b rb xb ox s t V) (ht : Ok t) (c g : Int) :
    Calls Try.prog 10 #[.pointer (some ⟨rb, 0, none⟩), .int .i64 c, .int .u32 g] V fun e w' => e = .returned (.int .i64 (takeE t c)) ∧ PS w b rb xb ox s (takeL t ⟨c, g⟩) w' :=
  (rtake_any h.r ht c g).mono fun _ _ ⟨q1, q2, q3⟩ => ⟨q1, h.rk q3 q2⟩
theorem PS.cdrop (h : PS w b rb xb ox s t V) (c : Int) :
    Calls Try.prog 11 #[.pointer (some ⟨b, 0, none⟩), .int .i64 c] V fun e w' => e = .returned (.tuple #[.int .u32 (genG s c), .bool (has s c)]) ∧ PS w b rb xb ox (dropL s c) t w' :=
  (drop_any h.c c).mono fun _ _ ⟨q1, q2, q3⟩ => ⟨q1, h.ck q3 q2⟩
theorem PS.rdrop (h : PS w b rb xb ox s t V) (ht : Okr t) (c : Int) :
    Calls Try.prog 12 #[.pointer (some ⟨rb, 0, none⟩), .int .i64 c] V fun e w' => e = .returned (.tuple #[.int .u32 (genG t c), .bool (has t c)]) ∧ PS w b rb xb ox s (dropL t c) w' :=
  (rdrop_any h.r ht c).mono fun _ _ ⟨q1, q2, q3⟩ => ⟨q1, h.rk q3 q2⟩
theorem PS.cof (h : PS w b rb xb ox s t V) {hm r : Int} (hr : r ≤ 9223372036854775807) :
    Calls Try.prog 13 #[.pointer (some ⟨b, 0, none⟩), .int .i64 hm, .int .i64 r] V fun e w' => ∃ A cap, e = .returned (.slice A (ofZ s hm r).length cap) ∧ IsM w' (.slice A (ofZ s hm r).length cap) (ofZ s hm r) ∧ PS w b rb xb ox s t w' := by
  refine (home_any (.inr ⟨b, rfl, h.c⟩) hr).mono ?_
  rintro e w' ⟨v, rfl, hr, hb⟩
  have hI := IsM.of_row hr
  obtain ⟨A, cap, rfl⟩ := row_isM hr
  exact ⟨A, cap, rfl, hI, h.below hb⟩
theorem PS.rof (h : PS w b rb xb ox s t V) (ht : Ok t) {hm r : Int} (hr : r ≤ 9223372036854775807) :
    Calls Try.prog 14 #[.pointer (some ⟨rb, 0, none⟩), .int .i64 hm, .int .i64 r] V fun e w' => ∃ A cap, e = .returned (.slice A (ofZ t hm r).length cap) ∧ IsM w' (.slice A (ofZ t hm r).length cap) (ofZ t hm r) ∧ PS w b rb xb ox s t w' ∧ Below V.heap.size V w' := by
  refine (rofz_any h.r ht hr).mono ?_
  rintro e w' ⟨v, rfl, hr, hb⟩
  have hI := IsM.of_row hr
  obtain ⟨A, cap, rfl⟩ := row_isM hr
  exact ⟨A, cap, rfl, hI, h.below hb, hb⟩
end
def opO (y : Kop) : Obj := .cells #[.int .i64 y.k, .int .i64 y.c, .int .u32 y.g, .int .i64 y.r] 36
theorem PS.cells {w V : World} {b rb xb : Nat} {s t : List Cm} {y : Kop} (h : PS w b rb xb (opO y) s t V) : V.cell? ⟨xb, 0, none⟩ = some (.int .i64 y.k) ∧ V.cell? ⟨xb, 1, none⟩ = some (.int .i64 y.c) ∧ V.cell? ⟨xb, 2, none⟩ = some (.int .u32 y.g) ∧ V.cell? ⟨xb, 3, none⟩ = some (.int .i64 y.r) := by
  have := h.x
  unfold opO at this
  exact ⟨by rw [blk_cell this]; rfl, by rw [blk_cell this]; rfl, by rw [blk_cell this]; rfl, by rw [blk_cell this]; rfl⟩
theorem takeE_in (s : List Cm) (c : Int) : takeE s c = 0 ∨ takeE s c = 2 ∨ takeE s c = 150 ∨ takeE s c = 151 := by
  unfold takeE
  split
  · exact .inr (.inl rfl)
  · split
    · exact .inr (.inr (.inl rfl))
    · split
      · exact .inr (.inr (.inr rfl))
      · exact .inl rfl
/-- Both, a call, and a list of all claims of its own. -/
def BQ (w : World) (b rb xb : Nat) (y : Kop) (s : List Cm) (base : Nat) (A : Option Addr) (c : Nat) (V : World) : Prop :=
  PS w b rb xb (opO y) s s V ∧ V.ownsRow base 26 2 (.slice A s.length c) s.length (csM s)
section
variable {w V V' : World} {b rb xb : Nat} {y : Kop} {s : List Cm} {base c : Nat} {A : Option Addr} {d1 d2 : Value}
theorem BQ.below (h : BQ w b rb xb y s base A c V) (k : Below V.heap.size V V') : BQ w b rb xb y s base A c V' := ⟨h.1.below k, (still_of k).row h.2 (fun _ _ => id)⟩
theorem BQ.cell (h : BQ w b rb xb y s base A c V) : V.cell? ⟨xb, 1, none⟩ = some (.int .i64 y.c) := h.1.cells.2.1
theorem BQ.crec (h : BQ w b rb xb y s base A c V) :
    Calls Try.prog 21 #[.pointer (some ⟨b, 0, none⟩), .int .i64 y.c] V fun e w' => ∃ d, e = .returned (.agg #[.int .i64 2, .int .i64 y.c, d]) ∧ (BQ w b rb xb y s base A c w' ∧ D4 w' d (genO s y.c)) ∧ w'.cell? ⟨xb, 1, none⟩ = some (.int .i64 y.c) := by
  refine (record_any (.inr ⟨b, rfl, h.1.c⟩) y.c).mono ?_
  rintro e w' ⟨d, rfl, hd, hb⟩
  exact ⟨d, rfl, ⟨h.below hb, hd⟩, (h.below hb).cell⟩
theorem BQ.rrec (h : BQ w b rb xb y s base A c V) (h1 : D4 V d1 (genO s y.c)) :
    Calls Try.prog 22 #[.pointer (some ⟨rb, 0, none⟩), .int .i64 y.c] V fun e w' => ∃ d, e = .returned (.agg #[.int .i64 2, .int .i64 y.c, d]) ∧ (BQ w b rb xb y s base A c w' ∧ D4 w' d1 (genO s y.c) ∧ D4 w' d (genO s y.c)) ∧ w'.cell? ⟨xb, 1, none⟩ = some (.int .i64 y.c) := by
  refine (rrecord_any h.1.r h.1.ok.okr y.c).mono ?_
  rintro e w' ⟨d, rfl, hd, hb⟩
  exact ⟨d, rfl, ⟨h.below hb, h1.below hb, hd⟩, (h.below hb).cell⟩
theorem BQ.rec_ (h : BQ w b rb xb y s base A c V) (h1 : D4 V d1 (genO s y.c)) (h2 : D4 V d2 (genO s y.c)) :
    Calls Try.prog 20 #[.agg #[.int .i64 2, .int .i64 y.c, d1], .agg #[.int .i64 2, .int .i64 y.c, d2]] V fun e w' => e = .returned (.bool true) ∧ BQ w b rb xb y s base A c w' ∧ w'.cell? ⟨xb, 1, none⟩ = some (.int .i64 y.c) := by
  refine (same_rec y.c h1 h2 (fun g e => ?_)).mono ?_
  · unfold genO at e
    split at e
    · cases e
      exact h.1.ok.gen _ (at_mem (by assumption))
    · cases e
  · rintro e w' ⟨rfl, hb⟩
    exact ⟨rfl, h.below hb, (h.below hb).cell⟩
theorem BQ.rall (h : BQ w b rb xb y s base A c V) :
    Calls Try.prog 23 #[.pointer (some ⟨rb, 0, none⟩)] V fun e w' => ∃ A9 c9, e = .returned (.slice A9 s.length c9) ∧ (BQ w b rb xb y s base A c w' ∧ IsM w' (.slice A9 s.length c9) s) ∧ w'.cell? ⟨xb, 1, none⟩ = some (.int .i64 y.c) := by
  refine (rall_any h.1.r h.1.ok.okr (by have := h.1.ok.len; omega)).mono ?_
  rintro e w' ⟨v, rfl, hr, hb⟩
  have hI := IsM.of_row hr
  obtain ⟨A, cap, rfl⟩ := row_isM hr
  exact ⟨A, cap, rfl, ⟨h.below hb, hI⟩, (h.below hb).cell⟩
theorem BQ.same (h : BQ w b rb xb y s base A c V) {A9 : Option Addr} {c9 : Nat} (hi : IsM V (.slice A9 s.length c9) s) :
    Calls Try.prog 15 #[.slice A s.length c, .slice A9 s.length c9] V fun e w' => e = .returned (.bool true) ∧ BQ w b rb xb y s base A c w' ∧ w'.cell? ⟨xb, 1, none⟩ = some (.int .i64 y.c) := by
  refine (rsame_any (IsM.of_row h.2) hi (by have := h.1.ok.len; omega)).mono ?_
  rintro e w' ⟨rfl, n, rfl⟩
  have hb := bel_drewN (Below.refl V.heap.size V) n
  exact ⟨by simp, h.below hb, (h.below hb).cell⟩
end
theorem PS.gk {w V V' : World} {b rb xb g : Nat} {ox : Obj} {s t : List Cm} (h : PS w b rb xb ox s t V) (k : Kept (fun k => k = g) V V') (hb : g ≠ b) (hr : g ≠ rb) (hx : g ≠ xb) (hg : w.heap.size ≤ g) : PS w b rb xb ox s t V' :=
  ⟨h.c.kept k (fun e => hb e.symm), h.r.blk (k.block rb h.r.lt (fun e => hr e.symm)), (k.block xb (blk_lt h.x) (fun e => hx e.symm)).trans h.x, h.hb, h.hr, h.hx, h.n1, h.n2, h.n3, h.bl.trans (k.below (fun i e => by omega) h.bl.size)⟩
/-- The list of its own, as it is emptied. -/
def ZI (w : World) (b rb xb : Nat) (y : Kop) (s : List Cm) (n : Nat) (A : Option Addr) (V : World) : Prop :=
  PS w b rb xb (opO y) s s V ∧ (n = 0 ∨ ∃ g cur, A = some ⟨g, 0, none⟩ ∧ V.heap[g]? = some (.cells cur 26 (0, 0)) ∧ n * 2 ≤ cur.size ∧ g ≠ b ∧ g ≠ rb ∧ g ≠ xb ∧ w.heap.size ≤ g)
theorem BQ.zi {w V : World} {b rb xb : Nat} {y : Kop} {s : List Cm} {base c : Nat} {A : Option Addr} (h : BQ w b rb xb y s base A c V) (hl : b < base ∧ rb < base ∧ xb < base) : ZI w b rb xb y s s.length A V := by
  refine ⟨h.1, ?_⟩
  have hb := h.1.hb
  rcases h.2.2 with ⟨_, h0⟩ | ⟨g, cap, cur, e, hb, hg, hle, _, hsz, _⟩
  · exact .inl h0
  · cases e
    exact .inr ⟨g, cur, rfl, hg, by omega, by omega, by omega, by omega, by omega⟩
theorem ZI.round {w V : World} {b rb xb : Nat} {y : Kop} {s : List Cm} {n k : Nat} {A : Option Addr} (h : ZI w b rb xb y s n A V) (hk : k < n) :
    ∃ g v0 v1, A = some ⟨g, 0, none⟩ ∧ V.cell? ⟨g, k * 2, none⟩ = some v0 ∧ V.cell? ⟨g, k * 2 + 1, none⟩ = some v1 ∧ V.frozen? ⟨g, k * 2, none⟩ = false ∧ V.frozen? ⟨g, k * 2 + 1, none⟩ = false ∧
      ∀ x0 x1, ZI w b rb xb y s n A ((V.setCell ⟨g, k * 2, none⟩ x0).setCell ⟨g, k * 2 + 1, none⟩ x1) := by
  obtain ⟨h1, h2 | ⟨g, cur, rfl, hg, hsz, e1, e2, e3, e4⟩⟩ := h
  · omega
  · refine ⟨g, cur[k * 2]'(by omega), cur[k * 2 + 1]'(by omega), rfl, by rw [blk_cell hg]; exact Array.getElem?_eq_getElem _, by rw [blk_cell hg]; exact Array.getElem?_eq_getElem _, blk_free hg _, blk_free hg _, fun x0 x1 => ?_⟩
    refine ⟨h1.gk ((((Kept.refl (fun k => k = g) V).setCell (p := ⟨g, k * 2, none⟩) (.inl rfl) x0)).setCell (p := ⟨g, k * 2 + 1, none⟩) (.inl rfl) x1) e1 e2 e3 e4, .inr ⟨g, _, rfl, blk_set (blk_set hg (k * 2) x0) (k * 2 + 1) x1, by simpa using hsz, e1, e2, e3, e4⟩⟩
def plL (s : List Cm) (y : Kop) : List Cm := if y.k = 0 then takeL s ⟨y.c, y.g⟩ else if y.k = 1 then dropL s y.c else s
/-- Both in memory. -/
def PL (w : World) (b rb : Nat) (V : World) : Prop := ∃ s, CAt V b s ∧ RfAt V rb s ∧ w.heap.size ≤ b ∧ w.heap.size ≤ rb ∧ b ≠ rb ∧ Below w.heap.size w V
set_option maxHeartbeats 8000000 in
theorem plays_any {w : World} {A : Option Addr} {l : List Kop} {cap : Nat} (hA : OpsAt w A l) (hm : ∀ k, k < l.length → OpIn (l.getD k default)) :
    Calls Try.prog 3 #[.slice A l.length cap] w fun e w' => e = .returned (.bool true) ∧ Below w.heap.size w w' := by
  have hz := Try.zero2048
  have HA := Lib.hid hA
  have HM := Lib.hid hm
  clear hA hm
  obtain ⟨N, hN⟩ : ∃ N, N = l.length := ⟨_, rfl⟩
  have HN := Lib.hid hN
  rw [← hN] at HM ⊢
  clear hN
  by_cases hl : 200 < N
  · have d1 : decide ((200 : Int) < (N : Int)) = true := by simp; omega
    go_enter Try.func3, Try.ntmps3
    go_wp2
    go_ret
    exact ⟨rfl, Below.refl _ _⟩
  · have d1 : decide ((200 : Int) < (N : Int)) = false := by simp; omega
    have hN100 : N ≤ 200 := by omega
    clear hl
    obtain ⟨b, hb⟩ : ∃ b, b = w.heap.size := ⟨_, rfl⟩
    obtain ⟨rb, hrb⟩ : ∃ rb, rb = b + 1 := ⟨_, rfl⟩
    obtain ⟨W1, hW1⟩ : ∃ W1, w.alloc (.cells z33 29) = W1 := ⟨_, rfl⟩
    obtain ⟨W2, hW2⟩ : ∃ W2, W1.alloc (.cells f2048 34) = W2 := ⟨_, rfl⟩
    have hs1 : W1.heap.size = b + 1 := by rw [← hW1, hb]; simp
    have h0 : PL w b rb W2 := by
      have hb1 : Below w.heap.size w W1 := by rw [← hW1]; exact alloc_below w _
      have hb2 : Below W1.heap.size W1 W2 := by rw [← hW2]; exact alloc_below W1 _
      have hc : CAt W1 b [] := by rw [← hW1, hb]; exact z33_new w
      refine ⟨[], hc.below hb2, ?_, by omega, by omega, by omega, hb1.trans (hb2.mono (by omega))⟩
      rw [hrb, ← hs1, ← hW2]; exact RfAt.fresh W1
    have H0 := Lib.hid h0
    have HRb := Lib.hid hrb
    clear h0
    unfold z33 at hW1
    go_enter Try.func3, Try.ntmps3
    go_wp2_with fail
    clear hW1 hW2 hz hs1
    rw [← hb, ← hrb]
    clear hb hrb HRb
    go_loopw [30] (fun u wr => ∃ j : Nat, j ≤ N ∧ u = .int .i64 (j : Int) ∧ PL w b rb wr) (fun u _ => N - (intOf u).toNat)
    case atStart => exact ⟨0, Nat.zero_le _, rfl, H0.out⟩
    case round =>
      rename World => V
      obtain ⟨j, hj, rfl, hC⟩ := hrel
      by_cases hlt : j < N
      · have d2 : decide ((j : Int) < (N : Int)) = true := by simp; omega
        have hop := HM.out j hlt
        obtain ⟨s, h1, h2, h3, h4, h5, h6⟩ := hC
        obtain ⟨a, rfl, z0, z1, z2, z3⟩ := (HA.out.below h6) j (by rw [← HN.out]; exact hlt)
        generalize l.getD j default = y at *
        have hv6 : V.heap.size ≠ b ∧ V.heap.size ≠ rb := ⟨by have := h1.lt; omega, by have := h2.lt; omega⟩
        have hps : PS w b rb V.heap.size (opO y) s s (V.alloc (opO y)) := ⟨h1.below (alloc_below V _), h2.below (alloc_below V _), World.alloc_heap_new V _, h3, h4, h6.size, h5, hv6.1.symm, hv6.2.symm, h6.trans ((alloc_below V _).mono h6.size)⟩
        have HPS := Lib.hid hps
        obtain ⟨x0, x1, x2, x3⟩ := hps.cells
        have ho : opO y = .cells #[.int .i64 y.k, .int .i64 y.c, .int .u32 y.g, .int .i64 y.r] 36 := rfl
        obtain ⟨Va, hVa⟩ : ∃ Va, V.alloc (opO y) = Va := ⟨_, rfl⟩
        rw [hVa] at HPS x0 x1 x2 x3
        rw [ho] at hVa
        clear h1 h2 h3 h4 h5 h6 hps ho
        have j0 : (0 : Int) ≤ (j : Int) := by omega
        have j1 : (j : Int) < (N : Int) := by omega
        obtain ⟨hg, hc, hrr⟩ := hop
        go_upto_block 2 with (fail)
        clear hVa z0 z1 z2 z3
        generalize V.heap.size = xb at *
        have HOk := Lib.hid HPS.out.ok
        go_cut [7] (fun v wx => v = .bool true ∧ PS w b rb xb (opO y) (plL s y) (plL s y) wx)
        case first =>
          by_cases hk0 : y.k = 0
          · have d0 : (y.k == 0) = true := by simpa using hk0
            have HPl : Hid (takeL s ⟨y.c, y.g⟩ = plL s y) := by rw [Hid]; unfold plL; rw [if_pos hk0]
            clear hk0
            have HT := Lib.hid (HPS.out.ctake y.c y.g hg)
            clear HPS
            go_wp2_with fail
            refine HT.out.mono ?_
            rintro e W3 ⟨rfl, hps⟩
            obtain ⟨_, x1, x2, _⟩ := hps.cells
            have HT2 := Lib.hid (hps.rtake HOk.out y.c y.g)
            have hE := takeE_in s y.c
            have ew : IntKind.i64.wrap (takeE s y.c) = takeE s y.c := IntWalk.i64_in _ (by omega)
            clear hps HT
            go_wp2_with fail
            refine HT2.out.mono ?_
            rintro e W4 ⟨rfl, hps⟩
            rw [HPl.out] at hps
            have HF := Lib.hid hps
            have e1 : (takeE s y.c == takeE s y.c) = true := by simp
            clear hps HT2 hE x1 x2
            generalize takeE s y.c = er at *
            go_wp2
            (go_meet; exact ⟨rfl, HF.out⟩)
          · by_cases hk1 : y.k = 1
            · have d0 : (y.k == 0) = false := by simpa using hk0
              have d1 : (y.k == 1) = true := by simpa using hk1
              have HPl : Hid (dropL s y.c = plL s y) := by rw [Hid]; unfold plL; rw [if_neg hk0, if_pos hk1]
              clear hk0 hk1
              have HT := Lib.hid (HPS.out.cdrop y.c)
              clear HPS
              go_wp2_with fail
              refine HT.out.mono ?_
              rintro e W3 ⟨rfl, hps⟩
              obtain ⟨_, x1, x2, _⟩ := hps.cells
              have HT2 := Lib.hid (hps.rdrop HOk.out.okr y.c)
              clear hps HT
              go_wp2_with fail
              refine HT2.out.mono ?_
              rintro e W4 ⟨rfl, hps⟩
              have e1 : (genG s y.c == genG s y.c) = true := by simp
              have e2 : (has s y.c == has s y.c) = true := by simp
              rw [HPl.out] at hps
              have HF := Lib.hid hps
              clear hps HT2
              generalize genG s y.c = gg at *
              generalize has s y.c = hh at *
              go_wp2
              (go_meet; exact ⟨rfl, HF.out⟩)
            · by_cases hk2 : y.k = 2
              · have d0 : (y.k == 0) = false := by simpa using hk0
                have d1 : (y.k == 1) = false := by simpa using hk1
                have d2 : (y.k == 2) = true := by simpa using hk2
                have HPl : Hid (plL s y = s) := by rw [Hid]; unfold plL; rw [if_neg hk0, if_neg hk1]
                clear hk0 hk1 hk2
                have HT := Lib.hid (HPS.out.cof (hm := y.c) (r := y.r) hrr.2)
                have h16 : (ofZ s y.c y.r).length ≤ 100000 := by
                  have := HOk.out.len
                  unfold ofZ
                  split
                  · simp
                  · have := ofL_len s y.c y.r; omega
                clear HPS
                go_wp2_with fail
                refine HT.out.mono ?_
                rintro e W3 ⟨A3, c3, rfl, hi3, hps⟩
                obtain ⟨_, x1, _, x3⟩ := hps.cells
                have HT2 := Lib.hid (hps.rof HOk.out (hm := y.c) (r := y.r) hrr.2)
                have HI3 := Lib.hid hi3
                clear hps HT hi3
                go_wp2_with fail
                refine HT2.out.mono ?_
                rintro e W4 ⟨A4, c4, rfl, hi4, hps, hb4⟩
                have hi3 := HI3.out.still (still_of hb4)
                have HS1 := Lib.hid (rsame_any hi3 hi4 h16)
                have HS2 : Hid (∀ n, Calls Try.prog 16 #[.slice A3 (ofZ s y.c y.r).length c3, .slice A4 (ofZ s y.c y.r).length c4] (W4.drewN n) fun e w' => e = .returned (.bool (decide (ofZ s y.c y.r = ofZ s y.c y.r))) ∧ ∃ n, w' = W4.drewN n) := by
                  intro n
                  have hk := still_of (bel_drewN (Below.refl W4.heap.size W4) n)
                  refine (csame_any (hi3.still hk) (hi4.still hk) h16).mono ?_
                  rintro e w' ⟨q1, m, q2⟩
                  exact ⟨q1, n + m, by rw [q2]; simp [World.drewN, Nat.add_assoc]⟩
                have HF : Hid (∀ n, PS w b rb xb (opO y) (plL s y) (plL s y) (W4.drewN n)) := by
                  intro n
                  rw [HPl.out]
                  exact hps.below (bel_drewN (Below.refl _ _) n)
                simp only [decide_true] at HS1 HS2
                clear hps HT2 hi3 hi4 h16 hb4 HI3
                generalize (ofZ s y.c y.r).length = n9 at *
                go_wp2_with fail
                refine HS1.out.mono ?_
                rintro e W6 ⟨rfl, n, rfl⟩
                have HS3 := Lib.hid (HS2.out n)
                clear HS1 HS2
                go_wp2_with fail
                refine HS3.out.mono ?_
                rintro e W6 ⟨rfl, m, rfl⟩
                have HF2 := Lib.hid (HF.out m)
                clear HF HS3
                go_wp2
                (go_meet; exact ⟨rfl, HF2.out⟩)
              · have d0 : (y.k == 0) = false := by simpa using hk0
                have d1 : (y.k == 1) = false := by simpa using hk1
                have d2 : (y.k == 2) = false := by simpa using hk2
                have HF : Hid (PS w b rb xb (opO y) (plL s y) (plL s y) Va) := by
                  have : plL s y = s := by unfold plL; rw [if_neg hk0, if_neg hk1]
                  rw [this]; exact HPS.out
                clear hk0 hk1 hk2 HPS
                go_wp2
                (go_meet; exact ⟨rfl, HF.out⟩)
        case rest =>
          obtain ⟨rfl, hps⟩ := hcut
          rename World => Vb
          clear x0 x1 x2 x3 HPS HOk
          obtain ⟨s2, hs2⟩ : ∃ s2, s2 = plL s y := ⟨_, rfl⟩
          rw [← hs2] at hps
          clear hs2
          obtain ⟨_, x1, _, _⟩ := hps.cells
          have HT := Lib.hid (gen_any (.inr ⟨b, rfl, hps.c⟩) y.c)
          have HPS := Lib.hid hps
          clear hps
          go_wp2_with fail
          refine HT.out.mono ?_
          rintro e W3 ⟨rfl, hb3⟩
          have hps := HPS.out.below hb3
          obtain ⟨_, x1, _, _⟩ := hps.cells
          have HT2 := Lib.hid (rfind_any hps.r hps.ok.okr y.c)
          have HPS3 := Lib.hid hps
          clear hps HPS HT hb3
          go_wp2_with fail
          refine HT2.out.mono ?_
          rintro e W4 ⟨rfl, hb4⟩
          have hps := HPS3.out.below hb4
          have HT3 := Lib.hid (all_any (.inr ⟨b, rfl, hps.c⟩))
          have HPS4 := Lib.hid hps
          clear hps HPS3 HT2 hb4
          go_wp2_with fail
          refine HT3.out.mono ?_
          rintro e W5 ⟨v5, rfl, hr5, hb5⟩
          have hps := HPS4.out.below hb5
          obtain ⟨A5, c5, rfl⟩ := row_isM hr5
          have hbq : BQ w b rb xb y s2 W4.heap.size A5 c5 W5 := ⟨hps, hr5⟩
          have hbq := hbq.below (Below.refl _ _).drew
          have zz : W5.drew.cell? ⟨xb, 1, none⟩ = some (.int .i64 y.c) := hbq.cell
          have HL4 : Hid (b < W4.heap.size ∧ rb < W4.heap.size ∧ xb < W4.heap.size) := ⟨HPS4.out.c.lt, HPS4.out.r.lt, blk_lt HPS4.out.x⟩
          have HC1 := Lib.hid hbq.crec
          clear hps HT3 hb5 hr5 hbq HPS4 x1
          have e1 : (genG s2 y.c != genG s2 y.c) = false := by simp
          have e2 : (has s2 y.c != has s2 y.c) = false := by simp
          go_wp2_with fail
          go_region_held3 (fun W' => W'.cell? ⟨xb, 1, none⟩ = some (.int .i64 y.c)) (first | exact zz | exact q6 | exact q7 | exact q8 | exact q9 | exact q10) (first
            | (go_at_call 21; (with_reducible refine HC1.out.mono ?_); rintro e W6 ⟨da, rfl, ⟨g6, g6'⟩, q6⟩; have HC2 := Lib.hid (g6.rrec g6'); clear HC1 g6 g6')
            | (go_at_call 22; (with_reducible refine HC2.out.mono ?_); rintro e W7 ⟨db, rfl, ⟨g7, g7', g7''⟩, q7⟩; have HC3 := Lib.hid (g7.rec_ g7' g7''); clear HC2 g7 g7' g7'')
            | (go_at_call 20; (with_reducible refine HC3.out.mono ?_); rintro e W8 ⟨rfl, g8, q8⟩; have HC4 := Lib.hid g8.rall; clear HC3 g8)
            | (go_at_call 23; (with_reducible refine HC4.out.mono ?_); rintro e W9 ⟨A9, c9, rfl, ⟨g9, g9'⟩, q9⟩; have HC5 := Lib.hid (g9.same g9'); clear HC4 g9 g9')
            | (go_at_call 15; (with_reducible refine HC5.out.mono ?_); rintro e W10 ⟨rfl, g10, q10⟩; have HBQ := Lib.hid g10; clear HC5 g10))
          have hzi := HBQ.out.zi HL4.out
          have HZ := Lib.hid hzi
          have hn16 := HBQ.out.1.ok.len
          have HPs : Hid (∀ V, ZI w b rb xb y s2 s2.length A5 V → PL w b rb V) := fun V h => ⟨s2, h.1.c, h.1.r, h.1.hb, h.1.hr, h.1.n1, h.1.bl⟩
          clear hzi HBQ q6 q7 q8 q9 q10 zz HL4 e1 e2
          generalize s2.length = n at *
          go_wp2_with fail
          go_loopw [150] (fun u wr => ∃ k : Nat, k ≤ n ∧ u = .int .i64 (k : Int) ∧ ZI w b rb xb y s2 n A5 wr) (fun u _ => n - (intOf u).toNat)
          case atStart => exact ⟨0, Nat.zero_le _, rfl, HZ.out⟩
          case round =>
            rename World => Vz
            obtain ⟨k, hk, rfl, hZ⟩ := hrel
            by_cases hkn : k < n
            · have d6 : decide ((k : Int) < (n : Int)) = true := by simp; omega
              have k0 : (0 : Int) ≤ (k : Int) := by omega
              have k1 : (k : Int) < (n : Int) := by omega
              obtain ⟨g, v0, v1, rfl, c0, c1, f0, f1, hF⟩ := hZ.round hkn
              have HF := Lib.hid (hF (.int .i64 0) (.int .u32 0))
              clear hF hZ HZ
              go_wp2
              go_roundw
              case rel => exact ⟨k + 1, by omega, by push_cast; rfl, HF.out⟩
              case measure => simp [intOf]; omega
            · obtain rfl : k = n := by omega
              have d6 : decide ((k : Int) < (k : Int)) = false := by simp
              have HF := Lib.hid (HPs.out _ hZ)
              clear hZ HPs HZ
              go_wp2
              go_roundw
              case rel => exact ⟨j + 1, by omega, by push_cast; rfl, HF.out⟩
              case measure => simp [intOf]; omega
      · obtain rfl : j = N := by omega
        have d2 : decide ((j : Int) < (j : Int)) = false := by simp
        obtain ⟨s, _, _, _, _, _, h6⟩ := hC
        have HF := Lib.hid h6
        clear h6 H0
        go_wp2
        first | exact ⟨rfl, HF.out⟩ | (go_ret; exact ⟨rfl, HF.out⟩)
end Go.Proofs.Ytijhkjegpcmjoaa
