/-
  The document's All: are two lists of packets the same?
-/
import Derived.Test.YtinihggcibghaaaBq
import Derived.Test.YtinihggcibghaaaBc
import Derived.Deep.RegionHeld3
namespace Go.Proofs.Ytinihggcibghaaa
set_option maxRecDepth 100000
set_option linter.unusedSimpArgs false
open Go Go.RowKit Bg
attribute [local go_sem] Oper.semAt_some

/-- A list of packets that is read. -/
structure AllL (W : World) (l : List Fl) (A : Option Addr) (cap : Nat) : Prop where
  at_ : 0 < l.length → ∃ g, A = some ⟨g, 0, none⟩ ∧ AllQ W l g cap
  le : l.length ≤ cap
  few : l.length ≤ 256
  lt : ∀ x ∈ l, ∀ c ∈ x.d, c < 256
theorem AllL.below {W W' : World} {l : List Fl} {A : Option Addr} {cap : Nat} (h : AllL W l A cap) (hb : Below W.heap.size W W') : AllL W' l A cap :=
  ⟨fun h0 => by obtain ⟨g, e, h1⟩ := h.at_ h0; exact ⟨g, e, h1.below hb⟩, h.le, h.few, h.lt⟩
theorem list_step {l m : List Fl} {j : Nat} (hj : j < l.length) (hm : l.length = m.length) (h : l.take j = m.take j) : (l.getD j noFl = m.getD j noFl → l.take (j + 1) = m.take (j + 1)) ∧ (l.getD j noFl ≠ m.getD j noFl → l ≠ m) := by
  refine ⟨fun e => ?_, fun e e2 => e (by rw [e2])⟩
  rw [List.take_add_one, List.take_add_one, h, List.getElem?_eq_getElem hj, List.getElem?_eq_getElem (show j < m.length by omega)]
  rw [List.getD_eq_getElem?_getD, List.getD_eq_getElem?_getD, List.getElem?_eq_getElem hj, List.getElem?_eq_getElem (show j < m.length by omega)] at e
  simp at e
  rw [e]

set_option maxHeartbeats 4000000 in
theorem rall_any {w : World} {l m : List Fl} {A B : Option Addr} {ca cb : Nat} (hl : AllL w l A ca) (hm : AllL w m B cb) :
    Calls Try.prog 16 #[.slice A l.length ca, .slice B m.length cb] w fun e w' => e = .returned (.bool (decide (l = m))) ∧ Below w.heap.size w w' := by
  obtain ⟨P, hP⟩ : ∃ P : Ending → World → Prop, P = fun e w' => e = .returned (.bool (decide (l = m))) ∧ Below w.heap.size w w' := ⟨_, rfl⟩
  have HT : Hid (l = m → ∀ w', Below w.heap.size w w' → P (.returned (.bool true)) w') := by rw [hP]; exact fun h w' hb => ⟨by rw [decide_eq_true h], hb⟩
  have HF : Hid (l ≠ m → ∀ w', Below w.heap.size w w' → P (.returned (.bool false)) w') := by rw [hP]; exact fun h w' hb => ⟨by rw [decide_eq_false h], hb⟩
  rw [← hP]
  clear hP
  have H1 := Lib.hid hl
  have H2 := Lib.hid hm
  have hlc := hl.le
  have hmc := hm.le
  have hlf := hl.few
  have hmf := hm.few
  clear hl hm
  by_cases hne : l.length = m.length
  · obtain ⟨N, hN⟩ : ∃ N, N = l.length := ⟨_, rfl⟩
    have HN := Lib.hid hN
    have HM : Hid (N = m.length) := by rw [hN]; exact hne
    have HST : Hid (∀ j, j < N → l.take j = m.take j → (l.getD j noFl = m.getD j noFl → l.take (j + 1) = m.take (j + 1)) ∧ (l.getD j noFl ≠ m.getD j noFl → l ≠ m)) := fun j hj h => list_step (by rw [← hN]; exact hj) hne h
    have HEND : Hid (l.take N = m.take N → l = m) := fun h => by
      rw [hN, List.take_length] at h
      rw [h, hne, List.take_length]
    rw [← hne]
    rw [← hN] at hlc hlf ⊢
    rw [← hne, ← hN] at hmc
    clear hmf hne hN
    go_enter Try.func16, Try.ntmps16
    go_wp2
    go_loopw [5] (fun i wr => ∃ j : Nat, j ≤ N ∧ i = .int .i64 (j : Int) ∧ Below w.heap.size w wr ∧ l.take j = m.take j) (fun i _ => N - (intOf i).toNat)
    case atStart => exact ⟨0, by omega, rfl, Below.refl _ _, rfl⟩
    case round =>
      obtain ⟨j, hj, rfl, hb, htk⟩ := hrel
      have HB := Lib.hid hb
      have HTK := Lib.hid htk
      clear htk
      by_cases hlt : j < N
      · obtain ⟨ga, rfl, hqa⟩ := (H1.out.below hb).at_ (by have := HN.out; omega)
        obtain ⟨gb, rfl, hqb⟩ := (H2.out.below hb).at_ (by have := HM.out; omega)
        obtain ⟨⟨a0, a1, a2, a4⟩, Aa, cca, a3, hya⟩ := hqa.cells j (by have := HN.out; omega)
        obtain ⟨⟨b0, b1, b2, b4⟩, Ab, ccb, b3, hyb⟩ := hqb.cells j (by have := HM.out; omega)
        have hla : ∀ c ∈ (l.getD j noFl).d, c < 256 := H1.out.lt _ (by rw [List.getD_eq_getElem?_getD, List.getElem?_eq_getElem (by have := HN.out; omega)]; exact List.getElem_mem _)
        have hlb : ∀ c ∈ (m.getD j noFl).d, c < 256 := H2.out.lt _ (by rw [List.getD_eq_getElem?_getD, List.getElem?_eq_getElem (by have := HM.out; omega)]; exact List.getElem_mem _)
        obtain ⟨hs1, hs2⟩ := HST.out j hlt HTK.out
        have HS1 := Lib.hid hs1
        have HS2 := Lib.hid hs2
        have HC : Hid (∀ W, Below wr.heap.size wr W → Calls Try.prog 15 #[flA (l.getD j noFl) (.slice Aa (l.getD j noFl).d.length cca), flA (m.getD j noFl) (.slice Ab (m.getD j noFl).d.length ccb)] W fun e w' => e = .returned (.bool (decide (l.getD j noFl = m.getD j noFl))) ∧ Below wr.heap.size wr w') := fun W hW => (same_any _ _ cca ccb (hya.below hW) (hyb.below hW) hla hlb).mono fun e w' h => ⟨h.1, hW.trans (h.2.mono hW.size)⟩
        clear hqa hqb hya hyb hla hlb hs1 hs2 hb
        generalize l.getD j noFl = x at *
        generalize m.getD j noFl = y at *
        have HSC : Hid (∀ W, Below wr.heap.size wr W → (W.cell? ⟨ga, j * 5, none⟩ = some (.int .i64 x.n) ∧ W.cell? ⟨ga, j * 5 + 1, none⟩ = some (.int .i64 x.f) ∧ W.cell? ⟨ga, j * 5 + 2, none⟩ = some (.int .i64 x.t) ∧ W.cell? ⟨ga, j * 5 + 3, none⟩ = some (.slice Aa x.d.length cca) ∧ W.cell? ⟨ga, j * 5 + 4, none⟩ = some (.bool x.s)) ∧ (W.cell? ⟨gb, j * 5, none⟩ = some (.int .i64 y.n) ∧ W.cell? ⟨gb, j * 5 + 1, none⟩ = some (.int .i64 y.f) ∧ W.cell? ⟨gb, j * 5 + 2, none⟩ = some (.int .i64 y.t) ∧ W.cell? ⟨gb, j * 5 + 3, none⟩ = some (.slice Ab y.d.length ccb) ∧ W.cell? ⟨gb, j * 5 + 4, none⟩ = some (.bool y.s))) := fun W hW => by
          have kk : Kept (fun _ => False) wr W := Kept.of_below hW (Nat.le_refl _)
          exact ⟨⟨kk.cell a0 id, kk.cell a1 id, kk.cell a2 id, kk.cell a3 id, kk.cell a4 id⟩, ⟨kk.cell b0 id, kk.cell b1 id, kk.cell b2 id, kk.cell b3 id, kk.cell b4 id⟩⟩
        clear a0 a1 a2 a3 a4 b0 b1 b2 b3 b4
        obtain ⟨n1, f1, t1, d1, s1⟩ := x
        obtain ⟨n2, f2, t2, d2, s2⟩ := y
        simp only [flA] at HC HSC
        have hd0 : Below wr.heap.size wr wr.drew := (Below.refl _ _).drew
        obtain ⟨⟨z0, z1, z2, z3, z4⟩, ⟨u0, u1, u2, u3, u4⟩⟩ := HSC.out wr.drew hd0
        have j0 : (0 : Int) ≤ (j : Int) := by omega
        have j1 : (j : Int) < (N : Int) := by omega
        have HE : Hid (∀ bb : Bool, bb = decide ((⟨n1, f1, t1, d1, s1⟩ : Fl) = ⟨n2, f2, t2, d2, s2⟩) → (bb = true → l.take (j + 1) = m.take (j + 1)) ∧ (bb = false → l ≠ m)) := fun bb hbb => by
          subst hbb
          exact ⟨fun h => HS1.out (of_decide_eq_true h), fun h => HS2.out (of_decide_eq_false h)⟩
        generalize hbb : decide ((⟨n1, f1, t1, d1, s1⟩ : Fl) = ⟨n2, f2, t2, d2, s2⟩) = bb at *
        obtain ⟨he1, he2⟩ := HE.out bb rfl
        have HE1 := Lib.hid he1
        have HE2 := Lib.hid he2
        clear HS1 HS2 HE he1 he2 hbb HST
        generalize d1.length = L1 at *
        generalize d2.length = L2 at *
        go_wp2_with fail
        go_region_held3 (fun W => Below wr.heap.size wr W ∧ (W.cell? ⟨ga, j * 5, none⟩ = some (.int .i64 n1) ∧ W.cell? ⟨ga, j * 5 + 1, none⟩ = some (.int .i64 f1) ∧ W.cell? ⟨ga, j * 5 + 2, none⟩ = some (.int .i64 t1) ∧ W.cell? ⟨ga, j * 5 + 3, none⟩ = some (.slice Aa L1 cca) ∧ W.cell? ⟨ga, j * 5 + 4, none⟩ = some (.bool s1)) ∧ (W.cell? ⟨gb, j * 5, none⟩ = some (.int .i64 n2) ∧ W.cell? ⟨gb, j * 5 + 1, none⟩ = some (.int .i64 f2) ∧ W.cell? ⟨gb, j * 5 + 2, none⟩ = some (.int .i64 t2) ∧ W.cell? ⟨gb, j * 5 + 3, none⟩ = some (.slice Ab L2 ccb) ∧ W.cell? ⟨gb, j * 5 + 4, none⟩ = some (.bool s2))) (first | exact ⟨hd0, ⟨z0, z1, z2, z3, z4⟩, ⟨u0, u1, u2, u3, u4⟩⟩ | exact ⟨hb9, HSC.out _ hb9⟩) (first | (go_at_call 15; (with_reducible refine (HC.out wr.drew hd0).mono ?_); rintro e w9 ⟨rfl, hb9⟩))
        have HB9 : Hid (Below w.heap.size w w9) := HB.out.trans (hb9.mono HB.out.size)
        clear hb9 HC HSC z0 z1 z2 z3 z4 u0 u1 u2 u3 u4 hd0
        cases bb with
        | true =>
          have HX := Lib.hid (HE1.out rfl)
          go_wp2
          go_roundw
          case rel => exact ⟨j + 1, by omega, by go_num, HB9.out, HX.out⟩
          case measure => simp [intOf]; omega
        | false =>
          have HX := Lib.hid (HF.out (HE2.out rfl) _ HB9.out)
          go_wp2
          first | exact HX.out | (go_ret; exact HX.out)
      · obtain rfl : j = N := by omega
        have HX := Lib.hid (HT.out (HEND.out HTK.out) _ HB.out)
        clear hb
        go_wp2
        first | exact HX.out | (go_ret; exact HX.out)
  · have HX := Lib.hid (HF.out (fun e => hne (by rw [e])) w (Below.refl _ _))
    have d1 : ((l.length : Int) != (m.length : Int)) = true := by
      have : ¬ (l.length : Int) = (m.length : Int) := by omega
      simpa using this
    generalize l.length = N at *
    generalize m.length = M at *
    go_enter Try.func16, Try.ntmps16
    go_wp2
    first | exact HX.out | (go_ret; exact HX.out)
end Go.Proofs.Ytinihggcibghaaa
