/-
  The law BagOrder.
-/
import Derived.Test.YtkhlaccabofkcaaBa
import Derived.Test.YtkhlaccabofkcaaBq
import Derived.Test.YtkhlaccabofkcaaBc
import Derived.Deep.DeepCutAuto
import Derived.Deep.CutBlock
import Derived.Test.YtkhlaccabofkcaaTk
import Derived.Deep.RegionHeld3
namespace Go.Proofs.Ytkhlaccabofkcaa
set_option maxRecDepth 100000
set_option linter.unusedSimpArgs false
open Go Go.RowKit Bg
attribute [local go_sem] Oper.semAt_some

namespace Bg
/-- In order. -/
structure Srt (b : St) : Prop where
  up : b.l.Pairwise (fun x y : Fl => x.n < y.n)
  le : ∀ x ∈ b.l, 1 ≤ x.n ∧ x.n ≤ (b.last : Int)
theorem Srt.zero : Srt zero := ⟨List.Pairwise.nil, fun _ h => absurd h (List.not_mem_nil)⟩
theorem Srt.come {b : St} (h : Srt b) (f t : Int) (d : List Nat) (s : Bool) : Srt (comeS b f t d s) := by
  unfold comeS
  split
  · exact ⟨h.up, h.le⟩
  · refine ⟨?_, fun x hx => ?_⟩
    · simp only
      rw [List.pairwise_append]
      refine ⟨h.up, by simp, fun a ha c hc => ?_⟩
      rw [List.mem_singleton] at hc
      subst hc
      have := (h.le a ha).2
      simp only; omega
    · rcases List.mem_append.1 hx with hx | hx
      · have := h.le x hx
        simp only; omega
      · rw [List.mem_singleton] at hx
        subst hx
        simp only; omega
theorem Srt.c {b : St} (h : Srt b) (c : Ct) : Srt { b with c := c } := ⟨h.up, h.le⟩
theorem Srt.erase {b : St} (h : Srt b) (i : Nat) (c : Ct) : Srt { b with l := b.l.eraseIdx i, c := c } := ⟨h.up.sublist (List.eraseIdx_sublist _ _), fun x hx => h.le x (List.mem_of_mem_eraseIdx hx)⟩
theorem Srt.send {b : St} (h : Srt b) (f t : Int) (d : List Nat) : Srt (sendS b f t d) := (h.c _).come f t d false
theorem Srt.del {b : St} (h : Srt b) (n : Int) : Srt (delS b n) := by
  unfold delS; split
  · exact h
  · exact h.erase _ _
theorem Srt.drop {b : St} (h : Srt b) (n : Int) : Srt (dropS b n) := by
  unfold dropS; split
  · exact h
  · exact h.erase _ _
theorem Srt.dbl {b : St} (h : Srt b) (n : Int) : Srt (dblS b n) := by
  unfold dblS; split
  · exact h
  · exact (h.c _).come _ _ _ _
theorem map_n_set {l : List Fl} {i : Nat} (hi : i < l.length) {y : Fl} (hy : y.n = (l.getD i noFl).n) : (l.set i y).map (·.n) = l.map (·.n) := by
  apply List.ext_getElem?
  intro j
  rw [List.getElem?_map, List.getElem?_map, List.getElem?_set]
  split
  · rename_i h
    subst h
    rw [List.getElem?_eq_getElem hi]
    simp only [Option.map_some]
    rw [hy, List.getD_eq_getElem?_getD, List.getElem?_eq_getElem hi]
    rfl
  · rfl
theorem Srt.spoil {b : St} (h : Srt b) (n a : Int) (v : Nat) : Srt (spoilS b n a v) := by
  unfold spoilS; split
  · exact h
  · rename_i i hi
    split
    · have hi := (idx_some hi).1
      have e := map_n_set hi (y := spoilt (b.l.getD i noFl) a.toNat v) rfl
      refine ⟨?_, fun x hx => ?_⟩
      · have h1 := h.up
        rw [← List.pairwise_map (f := fun x : Fl => x.n) (R := fun x y => x < y)] at h1 ⊢
        simp only
        rw [e]; exact h1
      · simp only at hx
        have : x.n ∈ (b.l.set i (spoilt (b.l.getD i noFl) a.toNat v)).map (·.n) := List.mem_map.2 ⟨x, hx, rfl⟩
        rw [e] at this
        obtain ⟨y, hy, e2⟩ := List.mem_map.1 this
        have := h.le y hy
        simp only at e2 ⊢
        omega
    · exact h
/-- A packet's number is its own. -/
theorem Srt.idx {b : St} (h : Srt b) {i : Nat} (hi : i < b.l.length) : idx b.l (b.l.getD i noFl).n = some i := by
  unfold Bg.idx
  rw [List.findIdx?_eq_some_iff_getElem]
  have e : b.l.getD i noFl = b.l[i] := by rw [List.getD_eq_getElem?_getD, List.getElem?_eq_getElem hi]; rfl
  rw [e]
  refine ⟨hi, by simp, fun j hj => ?_⟩
  have := (List.pairwise_iff_getElem.1 h.up) j i (by omega) hi hj
  have hne : ¬ b.l[j].n = b.l[i].n := by omega
  simpa using hne
theorem Srt.lt {b : St} (h : Srt b) {i : Nat} (hi : i + 1 < b.l.length) : (b.l.getD i noFl).n < (b.l.getD (i + 1) noFl).n := by
  have := (List.pairwise_iff_getElem.1 h.up) i (i + 1) (by omega) hi (by omega)
  rw [List.getD_eq_getElem?_getD, List.getElem?_eq_getElem (by omega), List.getD_eq_getElem?_getD, List.getElem?_eq_getElem hi]
  exact this
/-- What a call does. -/
def opS (b : St) (x : Cl) : St := if x.kind = 0 then sendS b x.n x.at_ x.d else if x.kind = 1 then delS b x.n else if x.kind = 2 then dropS b x.n else if x.kind = 3 then dblS b x.n else if x.kind = 4 then spoilS b x.n x.at_ x.v else b
theorem Srt.op {b : St} (h : Srt b) (x : Cl) : Srt (opS b x) := by
  unfold opS
  split
  · exact h.send _ _ _
  split
  · exact h.del _
  split
  · exact h.drop _
  split
  · exact h.dbl _
  split
  · exact h.spoil _ _ _
  · exact h
theorem Bd.op {k : Nat} {b : St} (h : Bd k b) (x : Cl) (hd : x.d.length ≤ 60) (hc : ∀ c ∈ x.d, c < 256) (hv : x.v < 256) : Bd (k + 2) (opS b x) := by
  unfold opS
  split
  · exact h.send _ _ hd hc
  split
  · exact (h.del1 _).mono (by omega)
  split
  · exact (h.drop1 _).mono (by omega)
  split
  · exact h.dbl2 _
  split
  · exact (h.spoil1 _ _ hv).mono (by omega)
  · exact h.mono (by omega)
end Bg

/-- Between two rounds. -/
def OrdI (w : World) (o j : Nat) (W : World) : Prop := ∃ b : St, One 29 w o b W ∧ Bd (2 * j) b ∧ Srt b

set_option maxHeartbeats 4000000 in
theorem order_few {w : World} {A : Option Addr} {l : List Cl} (cap : Nat) (hO : OpsAt w A l) (hl : l.length ≤ maxLen) :
    Calls Try.prog 6 #[.slice A l.length cap] w fun e w' => e = .returned (.bool true) ∧ Below w.heap.size w w' := by
  obtain ⟨P, hP⟩ : ∃ P : Ending → World → Prop, P = fun e w' => e = .returned (.bool true) ∧ Below w.heap.size w w' := ⟨_, rfl⟩
  have HQ : Hid (∀ w', Below w.heap.size w w' → P (.returned (.bool true)) w') := by rw [hP]; exact fun w' h => ⟨rfl, h⟩
  rw [← hP]
  clear hP
  have HO := Lib.hid hO
  have HAL := Lib.hid (alive_any w)
  have HG : Hid (∀ W, Below w.heap.size w W → Calls Try.prog 8 #[.slice A l.length cap] W fun e w' => ((e = .returned (.int .i64 0) ∧ Few l) ∨ e = .returned (.int .i64 1)) ∧ W = w') := fun W h => great_any cap (hO.below h) hl
  obtain ⟨L, hL⟩ : ∃ L, L = l.length := ⟨_, rfl⟩
  have HL := Lib.hid hL
  rw [← hL] at HG ⊢
  clear hO hl hL
  go_enter Try.func6, Try.ntmps6
  go_wp2_with fail
  refine HAL.out.mono ?_
  rintro e w1 ⟨rfl, hb1⟩
  have HB1 := Lib.hid hb1
  clear HAL hb1
  go_wp2_with fail
  refine (HG.out w1 HB1.out).mono ?_
  rintro e w2 ⟨⟨rfl, hf⟩ | rfl, rfl⟩
  · clear HG
    have hL120 : L ≤ 120 := by rw [HL.out]; exact hf.len
    have HF := Lib.hid hf.each
    clear hf
    have HN : Hid (OrdI w w1.heap.size 0 (w1.alloc (.cells #[.slice none 0 0, .int .i64 0, .int .i64 0, .int .i64 0, .int .i64 0, .int .i64 0, .int .i64 0, .int .i64 0] 29))) := ⟨Bg.zero, One.new w w1 HB1.out _, Bd.zero _, Srt.zero⟩
    go_wp2
    go_loopw [22] (fun i wr => ∃ j : Nat, j ≤ L ∧ i = .int .i64 (j : Int) ∧ OrdI w w1.heap.size j wr) (fun i _ => L - (intOf i).toNat)
    case atStart => exact ⟨0, by omega, rfl, HN.out⟩
    case round =>
      clear HN
      obtain ⟨j, hj, rfl, hI⟩ := hrel
      by_cases hlt : j < L
      · obtain ⟨b, h1, h2, h3⟩ := hI
        obtain ⟨a, rfl, ⟨c0, c1, c2, c3, c4, c5⟩, hok⟩ := (HO.out.below h1.1) j (by rw [← HL.out]; exact hlt)
        have hfew := HF.out j (by rw [← HL.out]; exact hlt)
        obtain ⟨x, hx⟩ : ∃ x, x = l.getD j default := ⟨_, rfl⟩
        rw [← hx] at c0 c1 c2 c3 c4 c5 hok hfew
        have HDA : Hid (∀ a, x.A = some a → 0 < x.d.length → a.block ≠ w1.heap.size) := fun a ha h0 => by
          obtain ⟨_, _, _, h9⟩ := HO.out j (by rw [← HL.out]; exact hlt)
          rw [← hx] at h9
          have := h9.dat.lt a ha h0
          have := HB1.out.size
          omega
        have HX := Lib.hid h1
        have H2 := Lib.hid h2
        have H3 := Lib.hid h3
        have HOK := Lib.hid hok
        clear h1 h2 h3 hok hx
        obtain ⟨hd60, _⟩ := hfew
        have j0 : (0 : Int) ≤ (j : Int) := by omega
        have j1 : (j : Int) < (L : Int) := by omega
        go_upto_block 2 with (fail)
        go_cut [31] from 31 to 63 (fun _ wx => OrdI w w1.heap.size (j + 1) wx)
        case first =>
          have hop : ∀ w', One 29 w w1.heap.size (opS b x) w' → OrdI w w1.heap.size (j + 1) w' := fun w' h => ⟨_, h, H2.out.op x hd60 HOK.out.lt HOK.out.v, H3.out.op x⟩
          have HXa : ∀ X, One 29 w w1.heap.size b (wr.alloc X) := fun X => HX.out.later ((Below.refl _ wr).alloc (Nat.le_refl _) X)
          have how := HB1.out.size
          have HDL : ∀ a, x.A = some a → 0 < x.d.length → a.block ≠ w1.heap.size := fun a ha h0 => HDA.out a ha h0
          have K0 : Hid (x.kind = 0 → ∀ X, Calls Try.prog 17 #[.pointer (some ⟨w1.heap.size, 0, none⟩), .int .i64 x.n, .int .i64 x.at_, .slice x.A x.d.length x.cap] (wr.alloc X) fun e w' => (∃ v, e = .returned v) ∧ OrdI w w1.heap.size (j + 1) w') := fun hk X =>
            (one_send (HXa X) H2.out (by omega) x.n x.at_ (HOK.out.dat.below ((Below.refl _ wr).alloc (Nat.le_refl _) X)) HDL HOK.out.nil (by omega)).mono fun e w' h => ⟨⟨_, h.1⟩, hop w' (by unfold opS; rw [if_pos hk]; exact h.2)⟩
          have K1 : Hid (x.kind = 1 → ∀ X, Calls Try.prog 20 #[.pointer (some ⟨w1.heap.size, 0, none⟩), .int .i64 x.n] (wr.alloc X) fun e w' => (∃ v, e = .returned v) ∧ OrdI w w1.heap.size (j + 1) w') := fun hk X =>
            (one_del (HXa X) H2.out (by omega) x.n).mono fun e w' h => ⟨by obtain ⟨⟨A, c, h1, _⟩, _⟩ := h; exact ⟨_, h1⟩, hop w' (by unfold opS; rw [if_neg (by omega), if_pos hk]; exact h.2)⟩
          have K2 : Hid (x.kind = 2 → ∀ X, Calls Try.prog 22 #[.pointer (some ⟨w1.heap.size, 0, none⟩), .int .i64 x.n] (wr.alloc X) fun e w' => (∃ v, e = .returned v) ∧ OrdI w w1.heap.size (j + 1) w') := fun hk X =>
            (one_drop (HXa X) H2.out (by omega) x.n).mono fun e w' h => ⟨⟨_, h.1⟩, hop w' (by unfold opS; rw [if_neg (by omega), if_neg (by omega), if_pos hk]; exact h.2)⟩
          have K3 : Hid (x.kind = 3 → ∀ X, Calls Try.prog 18 #[.pointer (some ⟨w1.heap.size, 0, none⟩), .int .i64 x.n] (wr.alloc X) fun e w' => (∃ v, e = .returned v) ∧ OrdI w w1.heap.size (j + 1) w') := fun hk X =>
            (one_dbl (HXa X) H2.out (by omega) x.n).mono fun e w' h => ⟨⟨_, h.1⟩, hop w' (by unfold opS; rw [if_neg (by omega), if_neg (by omega), if_neg (by omega), if_pos hk]; exact h.2)⟩
          have K4 : Hid (x.kind = 4 → ∀ X, Calls Try.prog 19 #[.pointer (some ⟨w1.heap.size, 0, none⟩), .int .i64 x.n, .int .i64 x.at_, .int .u8 (x.v : Nat)] (wr.alloc X) fun e w' => (∃ v, e = .returned v) ∧ OrdI w w1.heap.size (j + 1) w') := fun hk X =>
            (one_spoil (HXa X) H2.out (by omega) x.n x.at_ HOK.out.v).mono fun e w' h => ⟨⟨_, h.1⟩, hop w' (by unfold opS; rw [if_neg (by omega), if_neg (by omega), if_neg (by omega), if_neg (by omega), if_pos hk]; exact h.2)⟩
          have KN : Hid (x.kind ≠ 0 → x.kind ≠ 1 → x.kind ≠ 2 → x.kind ≠ 3 → x.kind ≠ 4 → ∀ X, OrdI w w1.heap.size (j + 1) (wr.alloc X)) := fun h0 h1 h2 h3 h4 X => hop _ (by unfold opS; rw [if_neg h0, if_neg h1, if_neg h2, if_neg h3, if_neg h4]; exact HXa X)
          clear hop HXa HX H2 H3 HOK how HDL HDA
          generalize x.kind = kd at *
          generalize x.n = xn at *
          generalize x.at_ = xa at *
          generalize x.v = xv at *
          generalize x.cap = xc at *
          generalize x.A = xA at *
          generalize x.d.length = xl at *
          by_cases e0 : kd = 0
          · subst e0
            go_wp2_with fail
            refine (K0.out (by first | rfl | trivial) _).mono ?_
            rintro e w3 ⟨⟨v, rfl⟩, h3⟩
            have HH := Lib.hid h3
            clear h3 K0 K1 K2 K3 K4 KN
            go_wp2
            go_meet
            exact HH.out
          · have d0 : (kd == 0) = false := by simpa using e0
            by_cases e1 : kd = 1
            · subst e1
              go_wp2_with fail
              refine (K1.out (by first | rfl | trivial) _).mono ?_
              rintro e w3 ⟨⟨v, rfl⟩, h3⟩
              have HH := Lib.hid h3
              clear h3 K0 K1 K2 K3 K4 KN
              go_wp2
              go_meet
              exact HH.out
            · have d1 : (kd == 1) = false := by simpa using e1
              by_cases e2 : kd = 2
              · subst e2
                go_wp2_with fail
                refine (K2.out (by first | rfl | trivial) _).mono ?_
                rintro e w3 ⟨⟨v, rfl⟩, h3⟩
                have HH := Lib.hid h3
                clear h3 K0 K1 K2 K3 K4 KN
                go_wp2
                go_meet
                exact HH.out
              · have d2 : (kd == 2) = false := by simpa using e2
                by_cases e3 : kd = 3
                · subst e3
                  go_wp2_with fail
                  refine (K3.out (by first | rfl | trivial) _).mono ?_
                  rintro e w3 ⟨⟨v, rfl⟩, h3⟩
                  have HH := Lib.hid h3
                  clear h3 K0 K1 K2 K3 K4 KN
                  go_wp2
                  go_meet
                  exact HH.out
                · have d3 : (kd == 3) = false := by simpa using e3
                  by_cases e4 : kd = 4
                  · subst e4
                    go_wp2_with fail
                    refine (K4.out (by first | rfl | trivial) _).mono ?_
                    rintro e w3 ⟨⟨v, rfl⟩, h3⟩
                    have HH := Lib.hid h3
                    clear h3 K0 K1 K2 K3 K4 KN
                    go_wp2
                    go_meet
                    exact HH.out
                  · have d4 : (kd == 4) = false := by simpa using e4
                    have HH := Lib.hid (KN.out e0 e1 e2 e3 e4)
                    clear K0 K1 K2 K3 K4 KN
                    go_wp2
                    go_meet
                    exact HH.out _
        case rest =>
          clear HX H2 H3 HOK c0 c1 c2 c3 c4 c5 hd60 HDA
          obtain ⟨b2, h1, h2, h3⟩ := hcut
          have HAll := Lib.hid (one_all h1 h2)
          have H2 := Lib.hid h2
          have H3 := Lib.hid h3
          have HN256 := h2.len
          clear h1 h2 h3
          go_wp2_with fail
          refine HAll.out.mono ?_
          rintro e w3 ⟨hall, h1'⟩
          obtain ⟨A2, cap2, rfl, hq, hcap, hmx, hb3⟩ := hall.q
          have HQQ := Lib.hid hq
          have HX := Lib.hid h1'
          have HI2 : Hid (∀ wx, Below w3.heap.size w3 wx → OrdI w w1.heap.size (j + 1) wx) := fun wx hb => ⟨b2, h1'.later hb, H2.out, H3.out⟩
          have HLen : Hid (∀ wx, Below w3.heap.size w3 wx → Calls Try.prog 15 #[.pointer (some ⟨w1.heap.size, 0, none⟩)] wx fun e w' => e = .returned (.int .i64 (b2.l.length : Nat)) ∧ wx = w') := fun wx hb => one_len (h1'.later hb)
          clear hall hq h1' hb3 HAll
          obtain ⟨N, hN⟩ : ∃ N, N = b2.l.length := ⟨_, rfl⟩
          have HNN := Lib.hid hN
          rw [← hN] at hcap HN256 HLen
          rw [← hN]
          clear hN
          have hN9 : N ≤ 9223372036854775807 := by omega
          go_wp2
          go_loopw [67] (fun i wx => ∃ q : Nat, q ≤ N ∧ i = .int .i64 (q : Int) ∧ Below w3.heap.size w3 wx) (fun i _ => N - (intOf i).toNat)
          case atStart => exact ⟨0, by omega, rfl, Below.refl _ _⟩
          case round =>
            obtain ⟨q, hqN, rfl, hbx⟩ := hrel
            rename World => wx
            by_cases hql : q < N
            · obtain ⟨g, rfl, hQ⟩ := HQQ.out (by have := HNN.out; omega)
              have hQx := hQ.below hbx
              obtain ⟨⟨z0, z1, z2, z4⟩, Aq, cq, z3, hBy⟩ := hQx.cells q (by have := HNN.out; omega)
              have hid := H3.out.idx (i := q) (by have := HNN.out; omega)
              have hmem := (H2.out.at_ (i := q) (by have := HNN.out; omega))
              have HFd : Hid (Calls Try.prog 10 #[.pointer (some ⟨w1.heap.size, 0, none⟩), .int .i64 (b2.l.getD q noFl).n] wx fun e w' => ∃ A' cap', e = .returned (.tuple #[flA (b2.l.getD q noFl) (.slice A' (b2.l.getD q noFl).d.length cap'), .bool true]) ∧ BytesAt w' A' (b2.l.getD q noFl).d ∧ Below wx.heap.size wx w') := by
                refine (one_find (HX.out.later hbx) H2.out (b2.l.getD q noFl).n).mono ?_
                rintro e w' ⟨⟨A', cap', h4, h5, _⟩, h6, _⟩
                have e1 : finX b2 (b2.l.getD q noFl).n = (b2.l.getD q noFl, true) := by rw [finX, hid]
                rw [e1] at h4 h5
                exact ⟨A', cap', h4, h5, h6⟩
              have hprev : 0 < q → wx.cell? ⟨g, (q - 1) * 5, none⟩ = some (.int .i64 (b2.l.getD (q - 1) noFl).n) ∧ (b2.l.getD (q - 1) noFl).n < (b2.l.getD q noFl).n := fun h0 => by
                refine ⟨(hQx.cells (q - 1) (by have := HNN.out; omega)).1.1, ?_⟩
                have := H3.out.lt (i := q - 1) (by have := HNN.out; omega)
                rwa [show q - 1 + 1 = q by omega] at this
              have HPR := Lib.hid hprev
              have HBx := Lib.hid hbx
              have HSM : Hid (∀ (x : Fl) (A B : Option Addr) (ca cb : Nat) (W : World), BytesAt W A x.d → BytesAt W B x.d → (∀ c ∈ x.d, c < 256) → Calls Try.prog 13 #[.agg #[.int .i64 x.n, .int .i64 x.f, .int .i64 x.t, .slice A x.d.length ca, .bool x.s], .agg #[.int .i64 x.n, .int .i64 x.f, .int .i64 x.t, .slice B x.d.length cb, .bool x.s]] W fun e w' => e = .returned (.bool true) ∧ Below W.heap.size W w') := fun x A B ca cb W h4 h5 h6 => (same_any x x ca cb h4 h5 h6 h6).mono fun e w' h7 => ⟨by rw [h7.1, decide_eq_true rfl], h7.2⟩
              have HBY := Lib.hid hBy
              have HM := Lib.hid hmem.2
              clear hQ hQx hid hmem hprev hbx hBy
              have HI3 : Hid (∀ W', Below wx.heap.size wx W' → Below w3.heap.size w3 W') := fun W' h => HBx.out.trans (h.mono HBx.out.size)
              generalize b2.l.getD q noFl = x at *
              obtain ⟨n1, f1, t1, d1, s1⟩ := x
              simp only [flA] at HFd HPR HBY HM z0 z1 z2 z3 z4
              have hc1 : N ≤ cap2 := hcap
              have q0 : (0 : Int) ≤ (q : Int) := by omega
              have q1 : (q : Int) < (N : Int) := by omega
              go_wp2_with fail
              refine HFd.out.mono ?_
              rintro e w4 ⟨A', cap', rfl, hby', hb4⟩
              have HV : Hid (∀ X, Below wx.heap.size wx (w4.alloc X)) := fun X => hb4.alloc hb4.size X
              have HY : Hid (∀ (X : Obj) (W : World), Below (w4.heap.size + 1) (w4.alloc X) W → BytesAt W A' d1 ∧ BytesAt W Aq d1 ∧ Below wx.heap.size wx W) := fun X W hW => by
                have hW' : Below (w4.alloc X).heap.size (w4.alloc X) W := by simpa using hW
                refine ⟨(hby'.below ((Below.refl _ w4).alloc (Nat.le_refl _) X)).below hW', (HBY.out.below (hb4.alloc hb4.size X)).below hW', (hb4.alloc hb4.size X).trans (hW'.mono ?_)⟩
                have := hb4.size
                simp; omega
              have kk : Kept (fun _ => False) wx w4 := Kept.of_below hb4 (Nat.le_refl _)
              have y0 := kk.cell z0 id
              have y1 := kk.cell z1 id
              have y2 := kk.cell z2 id
              have y3 := kk.cell z3 id
              have y4 := kk.cell z4 id
              have HP2 : Hid (0 < q → w4.cell? ⟨g, (q - 1) * 5, none⟩ = some (.int .i64 (b2.l.getD (q - 1) noFl).n) ∧ (b2.l.getD (q - 1) noFl).n < n1) := fun h0 => ⟨kk.cell (HPR.out h0).1 id, (HPR.out h0).2⟩
              clear kk z0 z1 z2 z3 z4 hby' hb4 HFd HPR HBY
              go_wp2
              obtain ⟨V, hV⟩ : ∃ V, V = w4.alloc (.cells #[.int .i64 n1, .int .i64 f1, .int .i64 t1, .slice A' d1.length cap', .bool s1] 38) := ⟨_, rfl⟩
              have hnew : V.heap[w4.heap.size]? = some (.cells #[.int .i64 n1, .int .i64 f1, .int .i64 t1, .slice A' d1.length cap', .bool s1] 38 (0, 0)) := by rw [hV]; exact World.alloc_heap_new w4 _
              have hVs : V.heap.size = w4.heap.size + 1 := by rw [hV]; simp
              have HVV : Hid (∀ W, Below V.heap.size V W → BytesAt W A' d1 ∧ BytesAt W Aq d1 ∧ Below wx.heap.size wx W) := fun W hW => HY.out (.cells #[.int .i64 n1, .int .i64 f1, .int .i64 t1, .slice A' d1.length cap', .bool s1] 38) W (by rw [← hV, ← hVs]; exact hW)
              have kV : Kept (fun _ => False) w4 V := by rw [hV]; exact (Kept.refl _ w4).alloc _
              have x0 := kV.cell y0 id
              have x1 := kV.cell y1 id
              have x2 := kV.cell y2 id
              have x3 := kV.cell y3 id
              have x4 := kV.cell y4 id
              obtain ⟨⟨v0, v1, v2, v3, v4⟩, _⟩ := five hnew
              have HSC : Hid (∀ W, Below V.heap.size V W → (W.cell? ⟨w4.heap.size, 0, none⟩ = some (.int .i64 n1) ∧ W.cell? ⟨w4.heap.size, 1, none⟩ = some (.int .i64 f1) ∧ W.cell? ⟨w4.heap.size, 2, none⟩ = some (.int .i64 t1) ∧ W.cell? ⟨w4.heap.size, 3, none⟩ = some (.slice A' d1.length cap') ∧ W.cell? ⟨w4.heap.size, 4, none⟩ = some (.bool s1)) ∧
                  (W.cell? ⟨g, q * 5, none⟩ = some (.int .i64 n1) ∧ W.cell? ⟨g, q * 5 + 1, none⟩ = some (.int .i64 f1) ∧ W.cell? ⟨g, q * 5 + 2, none⟩ = some (.int .i64 t1) ∧ W.cell? ⟨g, q * 5 + 3, none⟩ = some (.slice Aq d1.length cq) ∧ W.cell? ⟨g, q * 5 + 4, none⟩ = some (.bool s1)) ∧
                  (0 < q → W.cell? ⟨g, (q - 1) * 5, none⟩ = some (.int .i64 (b2.l.getD (q - 1) noFl).n))) := fun W hW => by
                have kW : Kept (fun _ => False) V W := Kept.of_below hW (Nat.le_refl _)
                exact ⟨⟨kW.cell v0 id, kW.cell v1 id, kW.cell v2 id, kW.cell v3 id, kW.cell v4 id⟩, ⟨kW.cell x0 id, kW.cell x1 id, kW.cell x2 id, kW.cell x3 id, kW.cell x4 id⟩, fun h0 => kW.cell (kV.cell (HP2.out h0).1 id) id⟩
              have HCall : Hid (∀ W, Below V.heap.size V W → Calls Try.prog 13 #[.agg #[.int .i64 n1, .int .i64 f1, .int .i64 t1, .slice A' d1.length cap', .bool s1], .agg #[.int .i64 n1, .int .i64 f1, .int .i64 t1, .slice Aq d1.length cq, .bool s1]] W fun e w' => e = .returned (.bool true) ∧ Below V.heap.size V w') := fun W hW => by
                obtain ⟨h4, h5, _⟩ := HVV.out W hW
                exact (HSM.out ⟨n1, f1, t1, d1, s1⟩ A' Aq cap' cq W h4 h5 HM.out).mono fun e w' h => ⟨h.1, hW.trans (h.2.mono hW.size)⟩
              have HNX : Hid (∀ W, Below V.heap.size V W → Below w3.heap.size w3 W) := fun W hW => HI3.out W (HVV.out W hW).2.2
              rw [← hV]
              have hlt2 : 0 < q → (b2.l.getD (q - 1) noFl).n < n1 := fun h0 => (HP2.out h0).2
              clear hV hnew hVs kV x0 x1 x2 x3 x4 v0 v1 v2 v3 v4 y0 y1 y2 y3 y4 HY HV HSM HM HP2 HVV HI3 HLen
              have hd0 : Below V.heap.size V V.drew := (Below.refl _ _).drew
              obtain ⟨⟨s0, s1', s2, s3, s4⟩, ⟨r0, r1, r2, r3, r4⟩, rp⟩ := HSC.out V (Below.refl _ _)
              generalize d1.length = DL at *
              cases q with
              | zero =>
                clear rp hlt2
                have hS0 := HSC.out V.drew hd0
                simp only [Nat.zero_mul, Nat.zero_add] at hS0 HSC
                refine wp_region_held_drew (S := fun W => (W.cell? ⟨w4.heap.size, 0, none⟩ = some (.int .i64 n1) ∧ W.cell? ⟨w4.heap.size, 1, none⟩ = some (.int .i64 f1) ∧ W.cell? ⟨w4.heap.size, 2, none⟩ = some (.int .i64 t1) ∧ W.cell? ⟨w4.heap.size, 3, none⟩ = some (.slice A' DL cap') ∧ W.cell? ⟨w4.heap.size, 4, none⟩ = some (.bool s1)) ∧ (W.cell? ⟨g, 0, none⟩ = some (.int .i64 n1) ∧ W.cell? ⟨g, 1, none⟩ = some (.int .i64 f1) ∧ W.cell? ⟨g, 2, none⟩ = some (.int .i64 t1) ∧ W.cell? ⟨g, 3, none⟩ = some (.slice Aq DL cq) ∧ W.cell? ⟨g, 4, none⟩ = some (.bool s1))) (by kernel_rfl) ⟨hS0.1, hS0.2.1⟩ (fun hHeld => ?_)
                simp only [List.size_toArray, List.length_cons, List.length_nil, Nat.reduceAdd, Array.replicate_succ, Array.replicate_zero, List.push_toArray, List.nil_append, List.cons_append, List.append_toArray]
                refine take_op (i := 0) (v := ?_) rfl (by kernel_rfl) (by kernel_rfl) (by kernel_rfl) (fun _ _ _ h => h) (Or.inl ⟨by rfl, ?_⟩) (by assumption) ?_
                rotate_left
                · (intro w' hSw; (try dsimp only at hSw); go_simp; (try with_reducible rfl))
                (try simp only [Act.put, List.setIfInBounds_toArray, List.set_cons_zero, List.set_cons_succ])
                refine take_op (i := 1) (v := ?_) rfl (by kernel_rfl) (by kernel_rfl) (by kernel_rfl) (fun _ _ _ h => h) (Or.inl ⟨by rfl, ?_⟩) (by assumption) ?_
                rotate_left
                · (intro w' hSw; (try dsimp only at hSw); go_simp; (try with_reducible rfl))
                (try simp only [Act.put, List.setIfInBounds_toArray, List.set_cons_zero, List.set_cons_succ])
                refine take_op (i := 2) (v := ?_) rfl (by kernel_rfl) (by kernel_rfl) (by kernel_rfl) (fun _ _ _ h => h) (Or.inl ⟨by rfl, ?_⟩) (by assumption) ?_
                rotate_left
                · (intro w' hSw; (try dsimp only at hSw); go_simp; (try with_reducible rfl))
                (try simp only [Act.put, List.setIfInBounds_toArray, List.set_cons_zero, List.set_cons_succ])
                refine take_op (i := 3) (v := ?_) rfl (by kernel_rfl) (by kernel_rfl) (by kernel_rfl) (fun _ _ _ h => h) (Or.inl ⟨by rfl, ?_⟩) (by assumption) ?_
                rotate_left
                · (intro w' hSw; (try dsimp only at hSw); go_simp; (try with_reducible rfl))
                (try simp only [Act.put, List.setIfInBounds_toArray, List.set_cons_zero, List.set_cons_succ])
                refine take_op (i := 4) (v := ?_) rfl (by kernel_rfl) (by kernel_rfl) (by kernel_rfl) (fun _ _ _ h => h) (Or.inl ⟨by rfl, ?_⟩) (by assumption) ?_
                rotate_left
                · (intro w' hSw; (try dsimp only at hSw); go_simp; (try with_reducible rfl))
                (try simp only [Act.put, List.setIfInBounds_toArray, List.set_cons_zero, List.set_cons_succ])
                refine take_op (i := 5) (v := ?_) rfl (by kernel_rfl) (by kernel_rfl) (by kernel_rfl) (fun _ _ _ h => h) (Or.inl ⟨by rfl, ?_⟩) (by assumption) ?_
                rotate_left
                · (intro w' hSw; (try dsimp only at hSw); go_simp; (try with_reducible rfl))
                (try simp only [Act.put, List.setIfInBounds_toArray, List.set_cons_zero, List.set_cons_succ])
                refine take_op (i := 6) (v := ?_) rfl (by kernel_rfl) (by kernel_rfl) (by kernel_rfl) (fun _ _ _ h => h) (Or.inl ⟨by rfl, ?_⟩) (by assumption) ?_
                rotate_left
                · (intro w' hSw; (try dsimp only at hSw); go_simp; (try with_reducible rfl))
                (try simp only [Act.put, List.setIfInBounds_toArray, List.set_cons_zero, List.set_cons_succ])
                refine take_op (i := 7) (v := ?_) rfl (by kernel_rfl) (by kernel_rfl) (by kernel_rfl) (fun _ _ _ h => h) (Or.inl ⟨by rfl, ?_⟩) (by assumption) ?_
                rotate_left
                · (intro w' hSw; (try dsimp only at hSw); go_simp; (try with_reducible rfl))
                (try simp only [Act.put, List.setIfInBounds_toArray, List.set_cons_zero, List.set_cons_succ])
                refine wpAnyH_ready (rs := [8]) (by kernel_rfl) (by simp) ?_
                refine cons_op rfl (fun K hK => ?_) AllReadyH.nil
                go_simp
                with_reducible refine (HCall.out V.drew hd0).mono ?_
                rintro e w9 ⟨rfl, hb9⟩
                have hs9 := (⟨(HSC.out w9 hb9).1, (HSC.out w9 hb9).2.1⟩ : _ ∧ _)
                (try go_wp2_with fail)
                refine hK.out _ _ hs9 (fun hHeld => ?_)
                clear hK K
                (try simp only [Act.put, List.setIfInBounds_toArray, List.set_cons_zero, List.set_cons_succ])
                refine take_op (i := 9) (v := ?_) rfl (by kernel_rfl) (by kernel_rfl) (by kernel_rfl) (fun _ _ _ h => h) (Or.inl ⟨by rfl, ?_⟩) (by assumption) ?_
                rotate_left
                · (intro w' hSw; (try dsimp only at hSw); go_simp; (try with_reducible rfl))
                (try simp only [Act.put, List.setIfInBounds_toArray, List.set_cons_zero, List.set_cons_succ])
                refine take_op (i := 10) (v := ?_) rfl (by kernel_rfl) (by kernel_rfl) (by kernel_rfl) (fun _ _ _ h => h) (Or.inl ⟨by rfl, ?_⟩) (by assumption) ?_
                rotate_left
                · (intro w' hSw; (try dsimp only at hSw); go_simp; (try with_reducible rfl))
                (try simp only [Act.put, List.setIfInBounds_toArray, List.set_cons_zero, List.set_cons_succ])
                refine take_op (i := 11) (v := ?_) rfl (by kernel_rfl) (by kernel_rfl) (by kernel_rfl) (fun _ _ _ h => h) (Or.inl ⟨by rfl, ?_⟩) (by assumption) ?_
                rotate_left
                · (intro w' hSw; (try dsimp only at hSw); go_simp; (try with_reducible rfl))
                (try simp only [Act.put, List.setIfInBounds_toArray, List.set_cons_zero, List.set_cons_succ])
                refine take_op (i := 12) (v := ?_) rfl (by kernel_rfl) (by kernel_rfl) (by kernel_rfl) (fun _ _ _ h => h) (Or.inl ⟨by rfl, ?_⟩) (by assumption) ?_
                rotate_left
                · (intro w' hSw; (try dsimp only at hSw); go_simp; (try with_reducible rfl))
                (try simp only [Act.put, List.setIfInBounds_toArray, List.set_cons_zero, List.set_cons_succ])
                refine take_op (i := 13) (v := ?_) rfl (by kernel_rfl) (by kernel_rfl) (by kernel_rfl) (fun _ _ _ h => h) (Or.inl ⟨by rfl, ?_⟩) (by assumption) ?_
                rotate_left
                · (intro w' hSw; (try dsimp only at hSw); go_simp; (try with_reducible rfl))
                (try simp only [Act.put, List.setIfInBounds_toArray, List.set_cons_zero, List.set_cons_succ])
                refine take_op (i := 14) (v := ?_) rfl (by kernel_rfl) (by kernel_rfl) (by kernel_rfl) (fun _ _ _ h => h) (Or.inl ⟨by rfl, ?_⟩) (by assumption) ?_
                rotate_left
                · (intro w' hSw; (try dsimp only at hSw); go_simp; (try with_reducible rfl))
                (try simp only [Act.put, List.setIfInBounds_toArray, List.set_cons_zero, List.set_cons_succ])
                refine take_op (i := 15) rfl (by kernel_rfl) (by kernel_rfl) (by kernel_rfl) (fun _ _ _ h => h) (Or.inr ⟨by rfl, rfl⟩) (by assumption) ?_
                (try simp only [Act.put, List.setIfInBounds_toArray, List.set_cons_zero, List.set_cons_succ])
                refine take_op (i := 16) rfl (by kernel_rfl) (by kernel_rfl) (by kernel_rfl) (fun _ _ _ h => h) (Or.inr ⟨by rfl, rfl⟩) (by assumption) ?_
                (try simp only [Act.put, List.setIfInBounds_toArray, List.set_cons_zero, List.set_cons_succ])
                refine take_op (i := 17) rfl (by kernel_rfl) (by kernel_rfl) (by kernel_rfl) (fun _ _ _ h => h) (Or.inr ⟨by rfl, rfl⟩) (by assumption) ?_
                (try simp only [Act.put, List.setIfInBounds_toArray, List.set_cons_zero, List.set_cons_succ])
                refine take_op (i := 18) rfl (by kernel_rfl) (by kernel_rfl) (by kernel_rfl) (fun _ _ _ h => h) (Or.inr ⟨by rfl, rfl⟩) (by assumption) ?_
                (try simp only [Act.put, List.setIfInBounds_toArray, List.set_cons_zero, List.set_cons_succ])
                refine take_op (i := 19) rfl (by kernel_rfl) (by kernel_rfl) (by kernel_rfl) (fun _ _ _ h => h) (Or.inr ⟨by rfl, rfl⟩) (by assumption) ?_
                (try simp only [Act.put, List.setIfInBounds_toArray, List.set_cons_zero, List.set_cons_succ])
                refine take_op (i := 20) rfl (by kernel_rfl) (by kernel_rfl) (by kernel_rfl) (fun _ _ _ h => h) (Or.inr ⟨by rfl, rfl⟩) (by assumption) ?_
                (try simp only [Act.put, List.setIfInBounds_toArray, List.set_cons_zero, List.set_cons_succ])
                refine take_op (i := 21) rfl (by kernel_rfl) (by kernel_rfl) (by kernel_rfl) (fun _ _ _ h => h) (Or.inr ⟨by rfl, rfl⟩) (by assumption) ?_
                (try simp only [Act.put, List.setIfInBounds_toArray, List.set_cons_zero, List.set_cons_succ])
                refine take_op (i := 22) rfl (by kernel_rfl) (by kernel_rfl) (by kernel_rfl) (fun _ _ _ h => h) (Or.inr ⟨by rfl, rfl⟩) (by assumption) ?_
                (try simp only [Act.put, List.setIfInBounds_toArray, List.set_cons_zero, List.set_cons_succ])
                refine take_op (i := 23) rfl (by kernel_rfl) (by kernel_rfl) (by kernel_rfl) (fun _ _ _ h => h) (Or.inr ⟨by rfl, rfl⟩) (by assumption) ?_
                (try simp only [Act.put, List.setIfInBounds_toArray, List.set_cons_zero, List.set_cons_succ])
                refine take_op (i := 24) rfl (by kernel_rfl) (by kernel_rfl) (by kernel_rfl) (fun _ _ _ h => h) (Or.inr ⟨by rfl, rfl⟩) (by assumption) ?_
                (try simp only [Act.put, List.setIfInBounds_toArray, List.set_cons_zero, List.set_cons_succ])
                refine take_op (i := 25) rfl (by kernel_rfl) (by kernel_rfl) (by kernel_rfl) (fun _ _ _ h => h) (Or.inr ⟨by rfl, rfl⟩) (by assumption) ?_
                (try simp only [Act.put, List.setIfInBounds_toArray, List.set_cons_zero, List.set_cons_succ])
                refine take_op (i := 26) rfl (by kernel_rfl) (by kernel_rfl) (by kernel_rfl) (fun _ _ _ h => h) (Or.inr ⟨by rfl, rfl⟩) (by assumption) ?_
                (try simp only [Act.put, List.setIfInBounds_toArray, List.set_cons_zero, List.set_cons_succ])
                refine take_op (i := 27) (v := ?_) rfl (by kernel_rfl) (by kernel_rfl) (by kernel_rfl) (fun _ _ _ h => h) (Or.inl ⟨by rfl, ?_⟩) (by assumption) ?_
                rotate_left
                · (intro w' hSw; (try dsimp only at hSw); go_simp; (try with_reducible rfl))
                (try simp only [Act.put, List.setIfInBounds_toArray, List.set_cons_zero, List.set_cons_succ])
                refine take_op (i := 28) (v := ?_) rfl (by kernel_rfl) (by kernel_rfl) (by kernel_rfl) (fun _ _ _ h => h) (Or.inl ⟨by rfl, ?_⟩) (by assumption) ?_
                rotate_left
                · (intro w' hSw; (try dsimp only at hSw); go_simp; (try with_reducible rfl))
                (try simp only [Act.put, List.setIfInBounds_toArray, List.set_cons_zero, List.set_cons_succ])
                refine wpAnyH_done (by kernel_rfl) ?_ _
                have HN5 := Lib.hid (HNX.out _ hb9)
                clear HSC HCall HNX hb9
                go_wp2
                go_roundw
                case rel => exact ⟨1, by omega, by go_num, HN5.out⟩
                case measure => simp [intOf]; omega
              | succ p =>
                have hP0 := rp (by omega)
                have hlp := hlt2 (by omega)
                simp only [Nat.add_sub_cancel] at hP0 hlp
                have HSC2 : Hid (∀ W, Below V.heap.size V W → (W.cell? ⟨w4.heap.size, 0, none⟩ = some (.int .i64 n1) ∧ W.cell? ⟨w4.heap.size, 1, none⟩ = some (.int .i64 f1) ∧ W.cell? ⟨w4.heap.size, 2, none⟩ = some (.int .i64 t1) ∧ W.cell? ⟨w4.heap.size, 3, none⟩ = some (.slice A' DL cap') ∧ W.cell? ⟨w4.heap.size, 4, none⟩ = some (.bool s1)) ∧ (W.cell? ⟨g, (p + 1) * 5, none⟩ = some (.int .i64 n1) ∧ W.cell? ⟨g, (p + 1) * 5 + 1, none⟩ = some (.int .i64 f1) ∧ W.cell? ⟨g, (p + 1) * 5 + 2, none⟩ = some (.int .i64 t1) ∧ W.cell? ⟨g, (p + 1) * 5 + 3, none⟩ = some (.slice Aq DL cq) ∧ W.cell? ⟨g, (p + 1) * 5 + 4, none⟩ = some (.bool s1)) ∧ W.cell? ⟨g, p * 5, none⟩ = some (.int .i64 (b2.l.getD p noFl).n)) := fun W hW => by
                  obtain ⟨h4, h5, h6⟩ := HSC.out W hW
                  have h7 := h6 (by omega)
                  simp only [Nat.add_sub_cancel] at h7
                  exact ⟨h4, h5, h7⟩
                clear rp hlt2 HSC
                have hS0 := HSC2.out V.drew hd0
                generalize (b2.l.getD p noFl).n = np at *
                have hnl : ¬ n1 ≤ np := by omega
                have hp0 : (0 : Int) < (p : Int) + 1 := by omega
                have hp1 : (0 : Int) ≤ (p : Int) := by omega
                have hq0 : (0 : Int) ≤ (p : Int) + 1 := by omega
                have hq1 : (p : Int) + 1 < (N : Int) := by omega
                have hp2 : (p : Int) < (N : Int) := by omega
                have hwr : IntKind.i64.wrap (p : Int) = (p : Int) := IntWalk.i64_in _ (by omega)
                refine wp_region_held_drew (S := fun W => (W.cell? ⟨w4.heap.size, 0, none⟩ = some (.int .i64 n1) ∧ W.cell? ⟨w4.heap.size, 1, none⟩ = some (.int .i64 f1) ∧ W.cell? ⟨w4.heap.size, 2, none⟩ = some (.int .i64 t1) ∧ W.cell? ⟨w4.heap.size, 3, none⟩ = some (.slice A' DL cap') ∧ W.cell? ⟨w4.heap.size, 4, none⟩ = some (.bool s1)) ∧ (W.cell? ⟨g, (p + 1) * 5, none⟩ = some (.int .i64 n1) ∧ W.cell? ⟨g, (p + 1) * 5 + 1, none⟩ = some (.int .i64 f1) ∧ W.cell? ⟨g, (p + 1) * 5 + 2, none⟩ = some (.int .i64 t1) ∧ W.cell? ⟨g, (p + 1) * 5 + 3, none⟩ = some (.slice Aq DL cq) ∧ W.cell? ⟨g, (p + 1) * 5 + 4, none⟩ = some (.bool s1)) ∧ W.cell? ⟨g, p * 5, none⟩ = some (.int .i64 np)) (by kernel_rfl) hS0 (fun hHeld => ?_)
                simp only [List.size_toArray, List.length_cons, List.length_nil, Nat.reduceAdd, Array.replicate_succ, Array.replicate_zero, List.push_toArray, List.nil_append, List.cons_append, List.append_toArray]
                refine take_op (i := 0) (v := ?_) rfl (by kernel_rfl) (by kernel_rfl) (by kernel_rfl) (fun _ _ _ h => h) (Or.inl ⟨by rfl, ?_⟩) (by assumption) ?_
                rotate_left
                · (intro w' hSw; (try dsimp only at hSw); go_simp; (try with_reducible rfl))
                (try simp only [Act.put, List.setIfInBounds_toArray, List.set_cons_zero, List.set_cons_succ])
                refine take_op (i := 1) (v := ?_) rfl (by kernel_rfl) (by kernel_rfl) (by kernel_rfl) (fun _ _ _ h => h) (Or.inl ⟨by rfl, ?_⟩) (by assumption) ?_
                rotate_left
                · (intro w' hSw; (try dsimp only at hSw); go_simp; (try with_reducible rfl))
                (try simp only [Act.put, List.setIfInBounds_toArray, List.set_cons_zero, List.set_cons_succ])
                refine take_op (i := 2) (v := ?_) rfl (by kernel_rfl) (by kernel_rfl) (by kernel_rfl) (fun _ _ _ h => h) (Or.inl ⟨by rfl, ?_⟩) (by assumption) ?_
                rotate_left
                · (intro w' hSw; (try dsimp only at hSw); go_simp; (try with_reducible rfl))
                (try simp only [Act.put, List.setIfInBounds_toArray, List.set_cons_zero, List.set_cons_succ])
                refine take_op (i := 3) (v := ?_) rfl (by kernel_rfl) (by kernel_rfl) (by kernel_rfl) (fun _ _ _ h => h) (Or.inl ⟨by rfl, ?_⟩) (by assumption) ?_
                rotate_left
                · (intro w' hSw; (try dsimp only at hSw); go_simp; (try with_reducible rfl))
                (try simp only [Act.put, List.setIfInBounds_toArray, List.set_cons_zero, List.set_cons_succ])
                refine take_op (i := 4) (v := ?_) rfl (by kernel_rfl) (by kernel_rfl) (by kernel_rfl) (fun _ _ _ h => h) (Or.inl ⟨by rfl, ?_⟩) (by assumption) ?_
                rotate_left
                · (intro w' hSw; (try dsimp only at hSw); go_simp; (try with_reducible rfl))
                (try simp only [Act.put, List.setIfInBounds_toArray, List.set_cons_zero, List.set_cons_succ])
                refine take_op (i := 5) (v := ?_) rfl (by kernel_rfl) (by kernel_rfl) (by kernel_rfl) (fun _ _ _ h => h) (Or.inl ⟨by rfl, ?_⟩) (by assumption) ?_
                rotate_left
                · (intro w' hSw; (try dsimp only at hSw); go_simp; (try with_reducible rfl))
                (try simp only [Act.put, List.setIfInBounds_toArray, List.set_cons_zero, List.set_cons_succ])
                refine take_op (i := 6) (v := ?_) rfl (by kernel_rfl) (by kernel_rfl) (by kernel_rfl) (fun _ _ _ h => h) (Or.inl ⟨by rfl, ?_⟩) (by assumption) ?_
                rotate_left
                · (intro w' hSw; (try dsimp only at hSw); go_simp; (try with_reducible rfl))
                (try simp only [Act.put, List.setIfInBounds_toArray, List.set_cons_zero, List.set_cons_succ])
                refine take_op (i := 7) (v := ?_) rfl (by kernel_rfl) (by kernel_rfl) (by kernel_rfl) (fun _ _ _ h => h) (Or.inl ⟨by rfl, ?_⟩) (by assumption) ?_
                rotate_left
                · (intro w' hSw; (try dsimp only at hSw); go_simp; (try with_reducible rfl))
                (try simp only [Act.put, List.setIfInBounds_toArray, List.set_cons_zero, List.set_cons_succ])
                refine wpAnyH_ready (rs := [8]) (by kernel_rfl) (by simp) ?_
                refine cons_op rfl (fun K hK => ?_) AllReadyH.nil
                go_simp
                with_reducible refine (HCall.out V.drew hd0).mono ?_
                rintro e w9 ⟨rfl, hb9⟩
                have hs9 := HSC2.out w9 hb9
                (try go_wp2_with fail)
                refine hK.out _ _ hs9 (fun hHeld => ?_)
                clear hK K
                (try simp only [Act.put, List.setIfInBounds_toArray, List.set_cons_zero, List.set_cons_succ])
                refine take_op (i := 9) (v := ?_) rfl (by kernel_rfl) (by kernel_rfl) (by kernel_rfl) (fun _ _ _ h => h) (Or.inl ⟨by rfl, ?_⟩) (by assumption) ?_
                rotate_left
                · (intro w' hSw; (try dsimp only at hSw); go_simp; (try with_reducible rfl))
                (try simp only [Act.put, List.setIfInBounds_toArray, List.set_cons_zero, List.set_cons_succ])
                refine take_op (i := 10) (v := ?_) rfl (by kernel_rfl) (by kernel_rfl) (by kernel_rfl) (fun _ _ _ h => h) (Or.inl ⟨by rfl, ?_⟩) (by assumption) ?_
                rotate_left
                · (intro w' hSw; (try dsimp only at hSw); go_simp; (try with_reducible rfl))
                (try simp only [Act.put, List.setIfInBounds_toArray, List.set_cons_zero, List.set_cons_succ])
                refine take_op (i := 11) (v := ?_) rfl (by kernel_rfl) (by kernel_rfl) (by kernel_rfl) (fun _ _ _ h => h) (Or.inl ⟨by rfl, ?_⟩) (by assumption) ?_
                rotate_left
                · (intro w' hSw; (try dsimp only at hSw); go_simp; (try with_reducible rfl))
                (try simp only [Act.put, List.setIfInBounds_toArray, List.set_cons_zero, List.set_cons_succ])
                refine take_op (i := 12) (v := ?_) rfl (by kernel_rfl) (by kernel_rfl) (by kernel_rfl) (fun _ _ _ h => h) (Or.inl ⟨by rfl, ?_⟩) (by assumption) ?_
                rotate_left
                · (intro w' hSw; (try dsimp only at hSw); go_simp; (try with_reducible rfl))
                (try simp only [Act.put, List.setIfInBounds_toArray, List.set_cons_zero, List.set_cons_succ])
                refine take_op (i := 13) (v := ?_) rfl (by kernel_rfl) (by kernel_rfl) (by kernel_rfl) (fun _ _ _ h => h) (Or.inl ⟨by rfl, ?_⟩) (by assumption) ?_
                rotate_left
                · (intro w' hSw; (try dsimp only at hSw); go_simp; (try with_reducible rfl))
                (try simp only [Act.put, List.setIfInBounds_toArray, List.set_cons_zero, List.set_cons_succ])
                refine take_op (i := 14) (v := ?_) rfl (by kernel_rfl) (by kernel_rfl) (by kernel_rfl) (fun _ _ _ h => h) (Or.inl ⟨by rfl, ?_⟩) (by assumption) ?_
                rotate_left
                · (intro w' hSw; (try dsimp only at hSw); go_simp; (try with_reducible rfl))
                (try simp only [Act.put, List.setIfInBounds_toArray, List.set_cons_zero, List.set_cons_succ])
                refine take_op (i := 15) (v := ?_) rfl (by kernel_rfl) (by kernel_rfl) (by kernel_rfl) (fun _ _ _ h => h) (Or.inl ⟨by rfl, ?_⟩) (by assumption) ?_
                rotate_left
                · (intro w' hSw; (try dsimp only at hSw); go_simp; (try with_reducible rfl))
                (try simp only [Act.put, List.setIfInBounds_toArray, List.set_cons_zero, List.set_cons_succ])
                refine take_op (i := 16) (v := ?_) rfl (by kernel_rfl) (by kernel_rfl) (by kernel_rfl) (fun _ _ _ h => h) (Or.inl ⟨by rfl, ?_⟩) (by assumption) ?_
                rotate_left
                · (intro w' hSw; (try dsimp only at hSw); go_simp; (try with_reducible rfl))
                (try simp only [Act.put, List.setIfInBounds_toArray, List.set_cons_zero, List.set_cons_succ])
                refine take_op (i := 17) (v := ?_) rfl (by kernel_rfl) (by kernel_rfl) (by kernel_rfl) (fun _ _ _ h => h) (Or.inl ⟨by rfl, ?_⟩) (by assumption) ?_
                rotate_left
                · (intro w' hSw; (try dsimp only at hSw); go_simp; (try with_reducible rfl))
                (try simp only [Act.put, List.setIfInBounds_toArray, List.set_cons_zero, List.set_cons_succ])
                refine take_op (i := 18) (v := ?_) rfl (by kernel_rfl) (by kernel_rfl) (by kernel_rfl) (fun _ _ _ h => h) (Or.inl ⟨by rfl, ?_⟩) (by assumption) ?_
                rotate_left
                · (intro w' hSw; (try dsimp only at hSw); go_simp; (try with_reducible rfl))
                (try simp only [Act.put, List.setIfInBounds_toArray, List.set_cons_zero, List.set_cons_succ])
                refine take_op (i := 19) (v := ?_) rfl (by kernel_rfl) (by kernel_rfl) (by kernel_rfl) (fun _ _ _ h => h) (Or.inl ⟨by rfl, ?_⟩) (by assumption) ?_
                rotate_left
                · (intro w' hSw; (try dsimp only at hSw); go_simp; (try with_reducible rfl))
                (try simp only [Act.put, List.setIfInBounds_toArray, List.set_cons_zero, List.set_cons_succ])
                refine take_op (i := 20) (v := ?_) rfl (by kernel_rfl) (by kernel_rfl) (by kernel_rfl) (fun _ _ _ h => h) (Or.inl ⟨by rfl, ?_⟩) (by assumption) ?_
                rotate_left
                · (intro w' hSw; (try dsimp only at hSw); go_simp; (try with_reducible rfl))
                (try simp only [Act.put, List.setIfInBounds_toArray, List.set_cons_zero, List.set_cons_succ])
                refine take_op (i := 21) (v := ?_) rfl (by kernel_rfl) (by kernel_rfl) (by kernel_rfl) (fun _ _ _ h => h) (Or.inl ⟨by rfl, ?_⟩) (by assumption) ?_
                rotate_left
                · (intro w' hSw; (try dsimp only at hSw); go_simp; (try with_reducible rfl))
                (try simp only [Act.put, List.setIfInBounds_toArray, List.set_cons_zero, List.set_cons_succ])
                refine take_op (i := 22) (v := ?_) rfl (by kernel_rfl) (by kernel_rfl) (by kernel_rfl) (fun _ _ _ h => h) (Or.inl ⟨by rfl, ?_⟩) (by assumption) ?_
                rotate_left
                · (intro w' hSw; (try dsimp only at hSw); go_simp; (try with_reducible rfl))
                (try simp only [Act.put, List.setIfInBounds_toArray, List.set_cons_zero, List.set_cons_succ])
                refine take_op (i := 23) (v := ?_) rfl (by kernel_rfl) (by kernel_rfl) (by kernel_rfl) (fun _ _ _ h => h) (Or.inl ⟨by rfl, ?_⟩) (by assumption) ?_
                rotate_left
                · (intro w' hSw; (try dsimp only at hSw); go_simp; (try with_reducible rfl))
                (try simp only [Act.put, List.setIfInBounds_toArray, List.set_cons_zero, List.set_cons_succ])
                refine take_op (i := 24) (v := ?_) rfl (by kernel_rfl) (by kernel_rfl) (by kernel_rfl) (fun _ _ _ h => h) (Or.inl ⟨by rfl, ?_⟩) (by assumption) ?_
                rotate_left
                · (intro w' hSw; (try dsimp only at hSw); go_simp; (try with_reducible rfl))
                (try simp only [Act.put, List.setIfInBounds_toArray, List.set_cons_zero, List.set_cons_succ])
                refine take_op (i := 25) (v := ?_) rfl (by kernel_rfl) (by kernel_rfl) (by kernel_rfl) (fun _ _ _ h => h) (Or.inl ⟨by rfl, ?_⟩) (by assumption) ?_
                rotate_left
                · (intro w' hSw; (try dsimp only at hSw); go_simp; (try with_reducible rfl))
                (try simp only [Act.put, List.setIfInBounds_toArray, List.set_cons_zero, List.set_cons_succ])
                refine take_op (i := 26) (v := ?_) rfl (by kernel_rfl) (by kernel_rfl) (by kernel_rfl) (fun _ _ _ h => h) (Or.inl ⟨by rfl, ?_⟩) (by assumption) ?_
                rotate_left
                · (intro w' hSw; (try dsimp only at hSw); go_simp; (try with_reducible rfl))
                (try simp only [Act.put, List.setIfInBounds_toArray, List.set_cons_zero, List.set_cons_succ])
                refine take_op (i := 27) (v := ?_) rfl (by kernel_rfl) (by kernel_rfl) (by kernel_rfl) (fun _ _ _ h => h) (Or.inl ⟨by rfl, ?_⟩) (by assumption) ?_
                rotate_left
                · (intro w' hSw; (try dsimp only at hSw); go_simp; (try with_reducible rfl))
                (try simp only [Act.put, List.setIfInBounds_toArray, List.set_cons_zero, List.set_cons_succ])
                refine take_op (i := 28) (v := ?_) rfl (by kernel_rfl) (by kernel_rfl) (by kernel_rfl) (fun _ _ _ h => h) (Or.inl ⟨by rfl, ?_⟩) (by assumption) ?_
                rotate_left
                · (intro w' hSw; (try dsimp only at hSw); go_simp; (try with_reducible rfl))
                (try simp only [Act.put, List.setIfInBounds_toArray, List.set_cons_zero, List.set_cons_succ])
                refine wpAnyH_done (by kernel_rfl) ?_ _
                have HN5 := Lib.hid (HNX.out _ hb9)
                clear HSC2 HCall HNX hb9
                go_wp2
                go_roundw
                case rel => exact ⟨p + 1 + 1, by omega, by go_num, HN5.out⟩
                case measure => simp [intOf]; omega
            · obtain rfl : q = N := by omega
              have HLx := Lib.hid (HLen.out wx hbx)
              have HI4 := Lib.hid (HI2.out wx hbx)
              have hnot : ¬ (256 : Int) < (q : Int) := by omega
              clear HLen HI2 hbx
              go_wp2_with fail
              refine HLx.out.mono ?_
              rintro e w5 ⟨rfl, rfl⟩
              go_wp2
              go_roundw
              case rel => exact ⟨j + 1, by omega, by go_num, HI4.out⟩
              case measure => simp [intOf]; omega
      · obtain ⟨b, h1, _⟩ := hI
        have HF2 := Lib.hid (HQ.out _ h1.1)
        obtain rfl : j = L := by omega
        clear h1
        go_wp2
        first | exact HF2.out | (go_ret; exact HF2.out)
  · have HF2 := Lib.hid (HQ.out _ HB1.out)
    go_wp2
    first | exact HF2.out | (go_ret; exact HF2.out)
end Go.Proofs.Ytkhlaccabofkcaa
