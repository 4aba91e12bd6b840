/-
  ClaimLoads: the claims of any records, or the error.
-/
import Derived.Test.YtijhkjegpcmjoaaCm2
import Derived.Test.YtijhkjegpcmjoaaCli
namespace Go.Proofs.Ytijhkjegpcmjoaa
set_option maxRecDepth 100000
set_option linter.unusedSimpArgs false
open Go Go.RowKit Cl
open Go.ChangeShapes Go.WideShapes Go.Deep

section
variable {H : Type} {enc : TypeId × Value → H} {w : World} {base : Nat} {spare : Nat → Bool} {held : Bool}
theorem u8_of {fuel : Nat} {c : List Value} {x : DataW H × List MemPlace} (h : DataW.trod enc Try.prog w base spare held fuel 5 c = some x) : ∃ n : Int, c = [.int .u8 n] ∧ 0 ≤ n ∧ n ≤ 255 := by
  obtain ⟨n, e, _, w0'⟩ := DataW.trod_int Try.underlying5 h
  have := bd_u8 w0'
  exact ⟨n, e, by omega, by omega⟩
theorem bytes_of {fuel : Nat} {v : Value} {x : DataW H × List MemPlace} (hf : DataW.trod enc Try.prog w base spare held fuel 47 [v] = some x) :
    ∃ (A : Option Addr) (l : List Int) (cap : Nat), v = .slice A l.length cap ∧ (∀ i, i < l.length → ∃ a, A = some a ∧ w.cell? (a.add i) = some (.int .u8 (l.getD i 0))) ∧ ∀ i, 0 ≤ l.getD i 0 ∧ l.getD i 0 ≤ 255 := by
  have hc : Try.prog.cellsOf 5 = 1 := by kernel_rfl
  rcases open_slice1 Try.underlying47 hc hf with ⟨h0, _⟩ | ⟨a', len', cap', m, n, V, D, Pl, hcs, hb, hl, hm, hmm, hx, hi⟩
  · have e : v = .slice none 0 0 := by simpa using h0
    exact ⟨none, [], 0, e, fun k hk => by simp at hk, fun i => by simp [List.getD]⟩
  · have e : v = .slice (some a') len' cap' := by simpa using hcs
    have hml : len' ≤ m := by rw [hmm]; split <;> omega
    obtain ⟨l, hll, hp⟩ := choose_list (P := fun i (x : Int) => w.cell? (a'.add i) = some (.int .u8 x) ∧ 0 ≤ x ∧ x ≤ 255) len' (by
      intro i hil
      obtain ⟨h1, h2⟩ := hi i (by omega)
      obtain ⟨k, e, hk⟩ := u8_of h2
      simp at e
      exact ⟨k, by rw [h1, e], hk⟩)
    have hd : ∀ i, l.getD i default = l.getD i 0 := fun i => rfl
    refine ⟨some a', l, cap', by rw [hll]; exact e, fun k hk => ?_, fun i => ?_⟩
    · have := (hp k (by omega)).1
      rw [hd] at this
      exact ⟨a', rfl, this⟩
    · rcases Nat.lt_or_ge i len' with h | h
      · have := (hp i h).2
        rw [hd] at this
        exact this
      · rw [List.getD_eq_getElem?_getD, List.getElem?_eq_none (by omega)]
        exact ⟨by decide, by decide⟩
theorem rc_of {fuel : Nat} {cs : List Value} {x : DataW H × List MemPlace} (h : DataW.trod enc Try.prog w base spare held fuel 49 cs = some x) :
    ∃ y : Rc, cs = [.int .i64 y.k, .int .i64 y.n, .slice y.A y.d.length y.cap] ∧ DOk w y := by
  obtain ⟨xs, n, _, _, hlen, hxl, hf⟩ := DataW.trod_struct Try.underlying49 h
  have hc : Try.prog.cellsOf 49 = 3 := by kernel_rfl
  have q1 : Try.prog.cellsOf 3 = 1 := by kernel_rfl
  have q3 : Try.prog.cellsOf 47 = 1 := by kernel_rfl
  rw [hc] at hlen
  match cs, hlen with
  | [c0, c1, c2], _ =>
    match xs, hxl with
    | [y0, y1, y2], _ =>
      have f2 := hf 2 _ rfl
      obtain ⟨a0, e0, _⟩ := int_of (x := y0) (hf 0 _ rfl)
      obtain ⟨a1, e1, _⟩ := int_of (x := y1) (hf 1 _ rfl)
      simp [q1, q3] at e0 e1 f2
      obtain ⟨A, l, cap, e2, g1, g2⟩ := bytes_of (x := y2) f2
      exact ⟨⟨a0, a1, l, A, cap⟩, by rw [e0, e1, e2], g1, g2⟩
theorem rcs_in {v : Value} {d : DataW H} {ps : List MemPlace} {r : Reach} {b0 : Nat} (hv : Value.okWide Try.prog w r b0 52 v) (h : DataW.Trod enc Try.prog w base spare held 52 v d ps) :
    ∃ (A : Option Addr) (l : List Rc) (cap : Nat), v = .slice A l.length cap ∧ RsAt w A l := by
  obtain ⟨a, len, cap, rfl⟩ := okWide_slice Try.underlying52 hv
  obtain ⟨fuel, hf⟩ := h
  have hc : Try.prog.cellsOf 49 = 3 := by kernel_rfl
  rcases open_slice Try.underlying52 hf with ⟨h0, _⟩ | ⟨a', len', cap', m, n, D, Pl, hcs, hb, hl, hm, hmm, hx, hi⟩
  · have e : (Value.slice a len cap) = .slice none 0 0 := by simpa [Value.cells] using h0
    cases e
    exact ⟨none, [], 0, rfl, fun k hk => by simp at hk⟩
  · have e : (Value.slice a len cap) = .slice (some a') len' cap' := by simpa [Value.cells] using hcs
    cases e
    have hml : len ≤ m := by rw [hmm]; split <;> omega
    obtain ⟨l, hll, hp⟩ := choose_list (P := fun i (x : Rc) => DOk w x ∧ w.cell? (a'.add (i * 3)) = some (.int .i64 x.k) ∧ w.cell? ((a'.add (i * 3)).add 1) = some (.int .i64 x.n) ∧ w.cell? ((a'.add (i * 3)).add 2) = some (.slice x.A x.d.length x.cap)) len (by
      intro i hil
      obtain ⟨cs', hcs', ht⟩ := hi i (by omega)
      rw [hc] at hcs'
      obtain ⟨it, rfl, hw⟩ := rc_of ht
      obtain ⟨_, hcl, hat⟩ := World.cells?_some hcs'
      have h0 := hat 0 (by omega)
      have h1 := hat 1 (by omega)
      have h2 := hat 2 (by omega)
      have e0 : (a'.add (i * 3)).add 0 = a'.add (i * 3) := by simp [Addr.add]
      rw [e0] at h0
      exact ⟨it, hw, h0, h1, h2⟩)
    refine ⟨some a', l, cap, by rw [hll], fun k hk => ?_⟩
    obtain ⟨h6, h0, h1, h2⟩ := hp k (by omega)
    exact ⟨a', rfl, ⟨h0, h1, h2⟩, h6⟩
end
set_option maxHeartbeats 4000000 in
theorem loads_any {w : World} {A : Option Addr} {l : List Rc} {cap : Nat} (h : RsAt w A l) :
    Calls Try.prog 4 #[.slice A l.length cap] w fun e w' => e = .returned (.bool true) ∧ Below w.heap.size w w' := by
  by_cases hl : 100 < l.length
  · have d1 : decide ((100 : Int) < (l.length : Int)) = true := by simp; omega
    generalize l.length = N at *
    go_enter Try.func4, Try.ntmps4
    go_wp2
    go_ret
    exact ⟨rfl, Below.refl _ _⟩
  · have d1 : decide ((100 : Int) < (l.length : Int)) = false := by simp; omega
    have hgr : ∀ r ∈ l, 0 ≤ g4 r.d ∧ g4 r.d < 4294967296 := by
      intro r hr
      obtain ⟨j, hj, rfl⟩ := List.getElem_of_mem hr
      obtain ⟨_, _, _, q⟩ := h j hj
      have := g4_in q
      rwa [show l.getD j default = l[j] by simp [List.getD, hj]] at this
    have hLT := ldR_tdR hgr
    have HL1 := Lib.hid (load_any (cap := cap) h (by omega))
    have HL2 : Hid (∀ V, Below w.heap.size w V → Calls Try.prog 25 #[.slice A l.length cap] V (RdQ V l)) := fun V hV => rload_any (h.below hV) (by omega)
    have HLT := Lib.hid hLT
    clear hLT hgr h hl
    unfold LdQ at HL1
    unfold RdQ at HL2
    rw [HLT.out] at HL1
    generalize l.length = N at *
    generalize (tdR l).2 = s at *
    generalize (tdR l).1 = er at *
    go_enter Try.func4, Try.ntmps4
    go_wp2_with fail
    refine HL1.out.mono ?_
    rintro e W1 ⟨p, rfl, q1, q2, hb⟩
    have H2 := Lib.hid (HL2.out W1 hb)
    have Q1 := Lib.hid q1
    have Q2 := Lib.hid q2
    have HB := Lib.hid hb
    clear q1 q2 hb HL1 HL2
    go_wp2_with fail
    refine H2.out.mono ?_
    rintro e W2 ⟨p2, rfl, q3, hb2⟩
    have HB2 := Lib.hid (HB.out.trans (hb2.mono HB.out.size))
    by_cases he : er = 0
    · obtain ⟨b1, rfl, c1, _⟩ := Q2.out he
      obtain ⟨b2, rfl, r2⟩ := q3 he
      have c2 := c1.below hb2
      have hok := c1.1
      have HA1 := Lib.hid (all_any (.inr ⟨b1, rfl, c2⟩))
      have HR2 := Lib.hid r2
      have HOk := Lib.hid hok
      subst he
      clear q3 hb2 c1 r2 c2 Q1 Q2 hok H2
      go_wp2_with fail
      refine HA1.out.mono ?_
      rintro e W3 ⟨v3, rfl, hr3, hb3⟩
      have hI3 := IsM.of_row hr3
      obtain ⟨A3, c3, rfl⟩ := row_isM hr3
      have HA2 := Lib.hid (rall_any (HR2.out.below hb3) HOk.out.okr (by have := HOk.out.len; omega))
      have HI3 := Lib.hid hI3
      have HB3 := Lib.hid (HB2.out.trans (hb3.mono HB2.out.size))
      clear hr3 hb3 hI3 HA1
      go_wp2_with fail
      refine HA2.out.mono ?_
      rintro e W4 ⟨v4, rfl, hr4, hb4⟩
      have hI4 := IsM.of_row hr4
      obtain ⟨A4, c4, rfl⟩ := row_isM hr4
      have HS := Lib.hid (rsame_any (HI3.out.still (still_of hb4)) hI4 (by have := HOk.out.len; omega))
      have HB4 := Lib.hid (HB3.out.trans (hb4.mono HB3.out.size))
      clear hr4 hb4 hI4 HA2
      go_wp2_with fail
      refine HS.out.mono ?_
      rintro e W5 ⟨rfl, n, rfl⟩
      have HF := Lib.hid (bel_drewN HB4.out n)
      simp only [decide_true]
      clear HS
      go_wp2
      first | exact ⟨rfl, HF.out⟩ | (go_ret; exact ⟨rfl, HF.out⟩)
    · have hp := Q1.out he
      subst hp
      have d3 : (er != 0) = true := by simpa using he
      clear q3 hb2 Q1 Q2 H2
      go_wp2
      first | exact ⟨rfl, HB2.out⟩ | (go_ret; exact ⟨rfl, HB2.out⟩)
end Go.Proofs.Ytijhkjegpcmjoaa
