/-
  ShelfApart, where Great's sum is within.
-/
import Derived.Test.YtgciibcngmimkaaSfR
namespace Go.Proofs.Ytgciibcngmimkaa
set_option maxRecDepth 100000
set_option linter.unusedSimpArgs false
open Go Go.RowKit Sf

/-- Two shelves that share nothing. -/
def Two (F : Nat) (w : World) (s c : Nat) (M K : List Ent) : Prop :=
  ∃ mo N mo2 N2, ShAt w s mo N M ∧ ShAt w c mo2 N2 K ∧ (∀ k, OfS s mo k → F ≤ k ∧ ¬ OfS c mo2 k) ∧ ∀ k, OfS c mo2 k → F ≤ k
section
variable {F : Nat} {w w' : World} {s c : Nat} {M K : List Ent}
theorem Two.symm (h : Two F w s c M K) : Two F w c s K M := by
  obtain ⟨mo, N, mo2, N2, h1, h2, h3, h4⟩ := h
  exact ⟨mo2, N2, mo, N, h2, h1, fun k hk => ⟨h4 k hk, fun hk2 => (h3 k hk2).2 hk⟩, fun k hk => (h3 k hk).1⟩
theorem Two.below (h : Two F w s c M K) (hb : Below w.heap.size w w') : Two F w' s c M K := by
  obtain ⟨mo, N, mo2, N2, h1, h2, h3, h4⟩ := h
  exact ⟨mo, N, mo2, N2, h1.below hb, h2.below hb, h3, h4⟩
theorem Two.fst (h : Two F w s c M K) : ∃ mo N, ShAt w s mo N M := by
  obtain ⟨mo, N, mo2, N2, h1, h2, h3, h4⟩ := h
  exact ⟨mo, N, h1⟩
theorem Two.write {r : Rec} {A : Option Addr} {cap : Nat} (h : Two F w s c M K) (hr : RecOk w r A cap) (hF : F ≤ w.heap.size) :
    Calls Try.prog 11 #[.pointer (some ⟨s, 0, none⟩), recA r.k r.n A r.d.length cap] w fun e w' => ∃ z, e = .returned (.int .i64 z) ∧ Two F w' s c (wrM M r) K ∧ Below F w w' ∧ ∀ v d, R8 w v d → R8 w' v d := by
  obtain ⟨mo, N, mo2, N2, h1, h2, h3, h4⟩ := h
  refine (write_all h1 hr).mono ?_
  rintro e w' ⟨rfl, mo', N', g1, g2, g3⟩
  refine ⟨_, rfl, ⟨mo', N', mo2, N2, g1, h2.kept g2 (fun k hk hX => (h3 k hX).2 hk) h1.no8, fun k hk => ?_, h4⟩, g2.below (fun k hk => (h3 k hk).1) hF, fun v d hv => hv.kept g2 h1.no8⟩
  rcases hk with rfl | hk
  · exact h3 _ (.inl rfl)
  · rcases g3 k hk with g | g
    · exact h3 k (.inr g)
    · exact ⟨by omega, fun hT => by have := h2.mlt hT; omega⟩
end
theorem gD_lt {M : List Ent} (h : Ok M) (k n : Int) : ∀ c ∈ gD M k n, c < 256 := by
  unfold gD
  split
  · cases hh : hasM M (pl ⟨k, n, []⟩) with
    | false => rw [getM_none hh]; intro c hc; cases hc
    | true =>
      obtain ⟨e, h1, h2⟩ := hasM_iff.1 hh
      rw [← h2, getM_of h.srt h1]
      exact (h.each e h1).by_
  · intro c hc; cases hc
/-- A cell of a block keeps. -/
theorem cellsKept {V W : World} (h : Below V.heap.size V W) {b : Nat} {cs : Array Value} {t : TypeId} {f : Nat × Nat} (hb : V.heap[b]? = some (.cells cs t f)) : W.heap[b]? = some (.cells cs t f) := (h.block _ (blk_lt hb)).trans hb
set_option maxHeartbeats 8000000 in
theorem apart_any {w : World} {A : Option Addr} {l : List Rc} {cap : Nat} (h : RsAt w A l) (hmx : gsum l ≤ 1000000000000000) (x y : Rc) (hx : RecOk w x.r x.A x.cap) (hy : RecOk w y.r y.A y.cap) (hxm : x.r.d.length ≤ 1000000000000000) (hym : y.r.d.length ≤ 1000000000000000) :
    Calls Try.prog 8 #[.slice A l.length cap, recA x.r.k x.r.n x.A x.r.d.length x.cap, recA y.r.k y.r.n y.A y.r.d.length y.cap] w fun e w' => e = .returned (.bool true) ∧ Below w.heap.size w w' := by
  obtain ⟨W0, hW0⟩ : ∃ W0, W0 = (w.alloc (recO x.r.k x.r.n x.A x.r.d.length x.cap)).alloc (recO y.r.k y.r.n y.A y.r.d.length y.cap) := ⟨_, rfl⟩
  have hb0 : Below w.heap.size w W0 := by rw [hW0]; exact ((Below.refl _ w).alloc (Nat.le_refl _) _).alloc (by simp) _
  have hcx : W0.heap[w.heap.size]? = some (recO x.r.k x.r.n x.A x.r.d.length x.cap) := by rw [hW0]; exact (heap2 w _ _).1
  have hcy : W0.heap[w.heap.size + 1]? = some (recO y.r.k y.r.n y.A y.r.d.length y.cap) := by rw [hW0]; exact (heap2 w _ _).2
  obtain ⟨F, hF⟩ : ∃ F, F = W0.heap.size := ⟨_, rfl⟩
  obtain ⟨wB, hwB⟩ : ∃ wB : World → Prop, wB = Below W0.heap.size W0 := ⟨_, rfl⟩
  have HD : Hid (∀ V W : World, wB V → Below V.heap.size V W → wB W) := Lib.hid (fun V W h1 h2 => by rw [hwB] at *; exact h1.trans (h2.mono h1.size))
  have HG : Hid (∀ V W : World, wB V → Below F V W → wB W) := Lib.hid (fun V W h1 h2 => by rw [hwB] at *; rw [hF] at h2; exact h1.trans h2)
  have HZ : Hid (∀ V : World, wB V → F ≤ V.heap.size) := Lib.hid (fun V h1 => by rw [hwB] at h1; rw [hF]; exact h1.size)
  have HEnd0 : Hid (∀ V : World, wB V → Below w.heap.size w V) := Lib.hid (fun V h1 => by rw [hwB] at h1; exact hb0.trans (h1.mono hb0.size))
  have HR1 : Hid (∀ V : World, wB V → RsAt V A l) := Lib.hid (fun V h1 => h.below (HEnd0.out V h1))
  have HXo : Hid (∀ V : World, wB V → RecOk V x.r x.A x.cap) := Lib.hid (fun V h1 => hx.below (HEnd0.out V h1))
  have HYo : Hid (∀ V : World, wB V → RecOk V y.r y.A y.cap) := Lib.hid (fun V h1 => hy.below (HEnd0.out V h1))
  have HC : Hid (∀ V : World, wB V → (V.cell? ⟨w.heap.size, 0, none⟩ = some (.int .i64 x.r.k) ∧ V.cell? ⟨w.heap.size, 1, none⟩ = some (.int .i64 x.r.n) ∧ V.cell? ⟨w.heap.size, 2, none⟩ = some (.slice x.A x.r.d.length x.cap)) ∧
      (V.cell? ⟨w.heap.size + 1, 0, none⟩ = some (.int .i64 y.r.k) ∧ V.cell? ⟨w.heap.size + 1, 1, none⟩ = some (.int .i64 y.r.n) ∧ V.cell? ⟨w.heap.size + 1, 2, none⟩ = some (.slice y.A y.r.d.length y.cap))) := Lib.hid (fun V h1 => by
    rw [hwB] at h1
    have e1 := cellsKept h1 hcx
    have e2 := cellsKept h1 hcy
    exact ⟨⟨by rw [blk_cell e1]; rfl, by rw [blk_cell e1]; rfl, by rw [blk_cell e1]; rfl⟩, by rw [blk_cell e2]; rfl, by rw [blk_cell e2]; rfl, by rw [blk_cell e2]; rfl⟩)
  obtain ⟨wE, hwE⟩ : ∃ wE : World → Prop, wE = Below w.heap.size w := ⟨_, rfl⟩
  have HEnd : Hid (∀ V : World, wB V → wE V) := Lib.hid (fun V h1 => by rw [hwE]; exact HEnd0.out V h1)
  rw [← hwE]
  clear hwE HEnd0
  have HB0 : Hid (wB W0) := Lib.hid (by rw [hwB]; exact Below.refl _ W0)
  have HG1 := Lib.hid (fun (V : World) (hV : wB V) => great_sum (w := V) cap (HR1.out V hV) hmx)
  have hxlt := hx.lt
  have hylt := hy.lt
  have HXl := Lib.hid hxlt
  have HYl := Lib.hid hylt
  clear hxlt hylt hwB hF hcx hcy hb0 h hx hy hmx
  obtain ⟨L, hL⟩ : ∃ L, L = l.length := ⟨_, rfl⟩
  have HL := Lib.hid hL
  rw [← hL] at HG1 ⊢
  clear hL
  have HXW : Hid (∀ (V : World) (s c : Nat) (M K : List Ent), wB V → Two F V s c M K → Calls Try.prog 11 #[.pointer (some ⟨s, 0, none⟩), recA x.r.k x.r.n x.A x.r.d.length x.cap] V fun e w' => ∃ z, e = .returned (.int .i64 z) ∧ wB w' ∧ Two F w' s c (wrM M x.r) K ∧ ∀ v d, R8 V v d → R8 w' v d) := by
    refine Lib.hid (fun V s c M K hV hT => (hT.write (HXo.out V hV) (HZ.out V hV)).mono ?_)
    rintro e w' ⟨z, rfl, h1, h2, h3⟩
    exact ⟨z, rfl, HG.out _ _ hV h2, h1, h3⟩
  have HYW : Hid (∀ (V : World) (s c : Nat) (M K : List Ent), wB V → Two F V s c M K → Calls Try.prog 11 #[.pointer (some ⟨s, 0, none⟩), recA y.r.k y.r.n y.A y.r.d.length y.cap] V fun e w' => ∃ z, e = .returned (.int .i64 z) ∧ wB w' ∧ Two F w' s c (wrM M y.r) K ∧ ∀ v d, R8 V v d → R8 w' v d) := by
    refine Lib.hid (fun V s c M K hV hT => (hT.write (HYo.out V hV) (HZ.out V hV)).mono ?_)
    rintro e w' ⟨z, rfl, h1, h2, h3⟩
    exact ⟨z, rfl, HG.out _ _ hV h2, h1, h3⟩
  obtain ⟨M0, hM0⟩ : ∃ M0, M0 = bhM [] (l.map (·.r)) := ⟨_, rfl⟩
  have HM0 := Lib.hid hM0
  clear hM0
  have HXd : Hid (∀ M, Ok M → M.length ≤ 4000 → ¬ (x.r.k = y.r.k ∧ x.r.n = y.r.n) → wrM (wrM M x.r) y.r = wrM (wrM M y.r) x.r ∧ gB (wrM M x.r) y.r.k y.r.n = gB M y.r.k y.r.n ∧ gD (wrM M x.r) y.r.k y.r.n = gD M y.r.k y.r.n) := Lib.hid (fun M h1 h2 h3 => ⟨wr_turn h1 h2 HXl.out HYl.out h3, g_wr h1 HXl.out h3⟩)
  generalize x.r.k = xk at *
  generalize x.r.n = xn at *
  generalize y.r.k = yk at *
  generalize y.r.n = yn at *
  generalize x.r.d.length = xl at *
  generalize y.r.d.length = yl at *
  generalize x.A = xA at *
  generalize y.A = yA at *
  generalize x.cap = xc at *
  generalize y.cap = yc at *
  go_enter Try.func8, Try.ntmps8
  go_wp2_with fail
  rw [← hW0]
  clear hW0
  generalize w.heap.size = sx at *
  (with_reducible refine (alive_any _).mono ?_)
  rintro e W1 ⟨rfl, hb⟩
  have HB1 := Lib.hid (HD.out _ _ HB0.out hb)
  clear hb HB0
  go_wp2_with fail
  (with_reducible refine (HG1.out _ HB1.out).mono ?_)
  rintro e W1' ⟨hg, rfl⟩
  obtain ⟨⟨x0, x1, x2⟩, y0, y1, y2⟩ := HC.out _ HB1.out
  rcases hg with ⟨rfl, hL4⟩ | rfl
  rotate_left
  · go_wp2
    go_ret
    exact ⟨rfl, HEnd.out _ HB1.out⟩
  clear HG1
  by_cases hxb : 1100 < xl
  · go_wp2
    go_ret
    exact ⟨rfl, HEnd.out _ HB1.out⟩
  by_cases hyb : 1100 < yl
  · go_wp2
    go_ret
    exact ⟨rfl, HEnd.out _ HB1.out⟩
  have HB2 : Hid (wB (W1.alloc (.cells #[.map none] 27))) := Lib.hid (HD.out _ _ HB1.out ((Below.refl _ W1).alloc (Nat.le_refl _) _))
  have HS2 : Hid (ShN F (W1.alloc (.cells #[.map none] 27)) W1.heap.size (bhM [] ((l.map (·.r)).take 0))) := by
    obtain ⟨mo, N, h1, h2⟩ := ShN.new W1
    exact Lib.hid ⟨mo, N, h1, fun k hk => Nat.le_trans (HZ.out _ HB1.out) (h2 k hk)⟩
  go_wp2_with fail
  clear x0 x1 x2 y0 y1 y2
  generalize W1.heap.size = s at *
  go_loopw [9] (fun i wr => ∃ j : Nat, j ≤ L ∧ i = .int .i64 (j : Int) ∧ wB wr ∧ ShN F wr s (bhM [] ((l.map (·.r)).take j))) (fun i _ => L - (intOf i).toNat)
  case atStart => exact ⟨0, by omega, rfl, HB2.out, HS2.out⟩
  case round =>
    obtain ⟨j, hj, rfl, h1, h2⟩ := hrel
    rename World => V
    have HB := Lib.hid h1
    have HS := Lib.hid h2
    clear h1 h2 HB1 HB2 HS2
    by_cases hlt : j < L
    · have hjl : j < l.length := by rw [← HL.out]; exact hlt
      obtain ⟨a, rfl, ⟨c0, c1, c2⟩, hrk⟩ := HR1.out _ HB.out j hjl
      have HW : Hid (Calls Try.prog 11 #[.pointer (some ⟨s, 0, none⟩), recA (l.getD j default).r.k (l.getD j default).r.n (l.getD j default).A (l.getD j default).r.d.length (l.getD j default).cap] V fun e w' => ∃ z, e = .returned (.int .i64 z) ∧ wB w' ∧ ShN F w' s (bhM [] ((l.map (·.r)).take (j + 1)))) := by
        refine Lib.hid ((HS.out.write hrk (HZ.out _ HB.out)).mono ?_)
        rintro e w' ⟨rfl, h1, h2⟩
        rw [bhM_take hjl]
        exact ⟨_, rfl, HG.out _ _ HB.out h2, h1⟩
      clear hrk hjl HS HB HXW HYW HXd
      generalize (l.getD j default).r.k = lk at *
      generalize (l.getD j default).r.n = ln at *
      generalize (l.getD j default).r.d.length = ll at *
      generalize (l.getD j default).A = lA at *
      generalize (l.getD j default).cap = lc at *
      go_wp2_with fail
      (with_reducible refine HW.out.mono ?_)
      rintro e V2 ⟨z, rfl, h1, h2⟩
      have HB := Lib.hid h1
      have HS := Lib.hid h2
      clear h1 h2 HW
      go_wp2
      go_roundw
      case rel => exact ⟨j + 1, by omega, by go_num, HB.out, HS.out⟩
      case measure => simp [intOf]; omega
    obtain rfl : j = L := by omega
    obtain ⟨M, hM⟩ : ∃ M, M = bhM [] ((l.map (·.r)).take j) := ⟨_, rfl⟩
    have hMl : M.length ≤ 4000 := by
      have h1 := bh_len ((l.map (·.r)).take j) []
      have h2 : ((l.map (·.r)).take j).length ≤ j := by rw [List.length_take]; omega
      rw [hM]
      simp only [List.length_nil, Nat.zero_add] at h1
      omega
    rw [← hM] at HS
    clear hM hlt
    obtain ⟨mo, N, hs, hsF⟩ := HS.out
    have HDl := Lib.hid (gD_lt hs.ok yk yn)
    have HXq : Hid (¬ (xk = yk ∧ xn = yn) → wrM (wrM M x.r) y.r = wrM (wrM M y.r) x.r ∧ gB (wrM M x.r) yk yn = gB M yk yn ∧ gD (wrM M x.r) yk yn = gD M yk yn) := Lib.hid (fun h3 => HXd.out M hs.ok hMl h3)
    have HCp := Lib.hid (copy_any hs)
    have HS3 := Lib.hid hs
    have HSF := Lib.hid hsF
    clear hs hsF HS HXd hMl HM0
    go_wp2_with fail
    (with_reducible refine HCp.out.mono ?_)
    rintro e W3 ⟨c, mc, rfl, hsc, hbc, hmc, hb⟩
    have HB3 := Lib.hid (HD.out _ _ HB.out hb)
    have hTw : Two F W3 s c M M := ⟨mo, N, some mc, _, HS3.out.below hb, hsc, fun k hk => ⟨HSF.out k hk, fun hk2 => by
      have h1 := HS3.out.mlt hk
      rcases hk2 with rfl | hk2
      · omega
      · injection hk2 with hk2
        omega⟩, fun k hk2 => by
      have h1 := HZ.out _ HB.out
      rcases hk2 with rfl | hk2
      · omega
      · injection hk2 with hk2
        omega⟩
    have HT3 := Lib.hid hTw
    have HGt := Lib.hid (get_any (HS3.out.below hb) yk yn)
    clear hTw hsc hbc hmc hb HSF HS3 HCp HB
    obtain ⟨⟨x0, x1, x2⟩, y0, y1, y2⟩ := HC.out _ HB3.out
    go_wp2_with fail
    (with_reducible refine HGt.out.mono ?_)
    rintro e W4 ⟨v, rfl, hv, hb⟩
    clear x0 x1 x2 y0 y1 y2 HGt
    have HB4 := Lib.hid (HD.out _ _ HB3.out hb)
    have HT4 := Lib.hid (HT3.out.below hb)
    have HV4 := Lib.hid hv
    clear hb hv HT3 HB3
    obtain ⟨⟨x0, x1, x2⟩, y0, y1, y2⟩ := HC.out _ HB4.out
    go_wp2_with fail
    (with_reducible refine (HXW.out _ _ _ _ _ HB4.out HT4.out).mono ?_)
    rintro e W5 ⟨z1, rfl, h1, h2, h3⟩
    clear x0 x1 x2 y0 y1 y2
    have HB5 := Lib.hid h1
    have HT5 := Lib.hid h2
    have HV5 := Lib.hid (h3 _ _ HV4.out)
    obtain ⟨mo5, N5, hs5⟩ := h2.fst
    have HGt := Lib.hid (get_any hs5 yk yn)
    clear h1 h2 h3 hs5 HB4 HT4 HV4
    obtain ⟨⟨x0, x1, x2⟩, y0, y1, y2⟩ := HC.out _ HB5.out
    go_wp2_with fail
    (with_reducible refine HGt.out.mono ?_)
    rintro e W6 ⟨v2, rfl, hv, hb⟩
    clear x0 x1 x2 y0 y1 y2 HGt
    have HB6 := Lib.hid (HD.out _ _ HB5.out hb)
    have HT6 := Lib.hid (HT5.out.below hb)
    have HV6 := Lib.hid (HV5.out.below hb)
    have HU6 := Lib.hid hv
    clear hb hv HT5 HB5 HV5
    obtain ⟨⟨x0, x1, x2⟩, y0, y1, y2⟩ := HC.out _ HB6.out
    go_wp2_with fail
    (with_reducible refine (HYW.out _ _ _ _ _ HB6.out HT6.out).mono ?_)
    rintro e W7 ⟨z2, rfl, h1, h2, h3⟩
    clear x0 x1 x2 y0 y1 y2
    have HB7 := Lib.hid h1
    have HT7 := Lib.hid h2.symm
    have HV7 := Lib.hid (h3 _ _ HV6.out)
    have HU7 := Lib.hid (h3 _ _ HU6.out)
    clear h1 h2 h3 HB6 HT6 HV6 HU6
    obtain ⟨⟨x0, x1, x2⟩, y0, y1, y2⟩ := HC.out _ HB7.out
    go_wp2_with fail
    (with_reducible refine (HYW.out _ _ _ _ _ HB7.out HT7.out).mono ?_)
    rintro e W8 ⟨z3, rfl, h1, h2, h3⟩
    clear x0 x1 x2 y0 y1 y2
    have HB8 := Lib.hid h1
    have HT8 := Lib.hid h2
    have HV8 := Lib.hid (h3 _ _ HV7.out)
    have HU8 := Lib.hid (h3 _ _ HU7.out)
    clear h1 h2 h3 HB7 HT7 HV7 HU7
    obtain ⟨⟨x0, x1, x2⟩, y0, y1, y2⟩ := HC.out _ HB8.out
    go_wp2_with fail
    (with_reducible refine (HXW.out _ _ _ _ _ HB8.out HT8.out).mono ?_)
    rintro e W9 ⟨z4, rfl, h1, h2, h3⟩
    clear x0 x1 x2 y0 y1 y2
    have HB9 := Lib.hid h1
    have HT9 := Lib.hid h2.symm
    have HV9 := Lib.hid (h3 _ _ HV8.out)
    have HU9 := Lib.hid (h3 _ _ HU8.out)
    clear h1 h2 h3 HB8 HT8 HV8 HU8 HXW HYW
    obtain ⟨⟨x0, x1, x2⟩, y0, y1, y2⟩ := HC.out _ HB9.out
    by_cases hk : xk = yk
    · by_cases hn : xn = yn
      · subst hk
        subst hn
        go_wp2
        go_ret
        exact ⟨rfl, HEnd.out _ HB9.out⟩
      · have d1 : (xn == yn) = false := by simpa using hn
        have HNe : Hid (¬ (xk = yk ∧ xn = yn)) := Lib.hid (fun h => hn h.2)
        subst hk
        obtain ⟨q1, q2, q3⟩ := HXq.out HNe.out
        rw [q2]
        obtain ⟨mo9, N9, hs9⟩ := HT9.out.fst
        obtain ⟨mo9', N9', hs9'⟩ := HT9.out.symm.fst
        have hsm := same_any (ShP.of hs9) (ShP.of hs9')
        rw [decide_eq_true q1] at hsm
        have HSm := Lib.hid hsm
        have hu := HU9.out
        rw [q3] at hu
        have HU := Lib.hid hu
        generalize gB M xk yn = bb at *
        have hbb : (bb == bb) = true := by simp
        clear q1 q2 q3 hs9 hs9' hsm hu HXq HU9 HT9
        go_wp2_with fail
        (with_reducible refine HSm.out.mono ?_)
        rintro e WA ⟨rfl, hb⟩
        have HBA := Lib.hid (HD.out _ _ HB9.out hb)
        have hcv := conv8 (HV9.out.below hb) HDl.out
        have hcu := conv8 (HU.out.below hb) HDl.out
        generalize strN (gD M xk yn) = sD at *
        have hss : (sD.toList == sD.toList) = true := by simp
        clear hb HSm HV9 HU HDl
        go_wp2
        go_ret
        exact ⟨rfl, HEnd.out _ HBA.out⟩
    · have d1 : (xk == yk) = false := by simpa using hk
      have HNe : Hid (¬ (xk = yk ∧ xn = yn)) := Lib.hid (fun h => hk h.1)
      obtain ⟨q1, q2, q3⟩ := HXq.out HNe.out
      rw [q2]
      obtain ⟨mo9, N9, hs9⟩ := HT9.out.fst
      obtain ⟨mo9', N9', hs9'⟩ := HT9.out.symm.fst
      have hsm := same_any (ShP.of hs9) (ShP.of hs9')
      rw [decide_eq_true q1] at hsm
      have HSm := Lib.hid hsm
      have hu := HU9.out
      rw [q3] at hu
      have HU := Lib.hid hu
      generalize gB M yk yn = bb at *
      have hbb : (bb == bb) = true := by simp
      clear q1 q2 q3 hs9 hs9' hsm hu HXq HU9 HT9
      go_wp2_with fail
      (with_reducible refine HSm.out.mono ?_)
      rintro e WA ⟨rfl, hb⟩
      have HBA := Lib.hid (HD.out _ _ HB9.out hb)
      have hcv := conv8 (HV9.out.below hb) HDl.out
      have hcu := conv8 (HU.out.below hb) HDl.out
      generalize strN (gD M yk yn) = sD at *
      have hss : (sD.toList == sD.toList) = true := by simp
      clear hb HSm HV9 HU HDl
      go_wp2
      go_ret
      exact ⟨rfl, HEnd.out _ HBA.out⟩
end Go.Proofs.Ytgciibcngmimkaa
