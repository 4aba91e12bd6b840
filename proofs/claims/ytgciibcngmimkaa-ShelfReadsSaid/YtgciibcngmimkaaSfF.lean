/-
  shelf.Read.
-/
import Derived.Test.YtgciibcngmimkaaSfE
namespace Go.Proofs.Ytgciibcngmimkaa
set_option maxRecDepth 100000
set_option linter.unusedSimpArgs false
open Go Go.RowKit Sf

namespace Sf
def lastI (M : List Ent) : Int := match M.getLast? with | none => -1 | some e => (e.1 : Int)
theorem lastI_nil : lastI [] = -1 := rfl
theorem lastI_snoc (M : List Ent) (e : Ent) : lastI (M ++ [e]) = (e.1 : Int) := by simp [lastI]
theorem lastI_lt {M : List Ent} (h : M.Pairwise (fun a b => a.1 < b.1)) (p : Nat) : lastI M < (p : Int) ↔ ∀ x ∈ M, x.1 < p := by
  rcases List.eq_nil_or_concat M with rfl | ⟨L, e, rfl⟩
  · simp [lastI_nil]
    omega
  · rw [List.concat_eq_append, lastI_snoc]
    rw [List.concat_eq_append] at h
    have h3 := (List.pairwise_append.1 h).2.2
    constructor
    · intro hp x hx
      rcases List.mem_append.1 hx with hx | hx
      · have := h3 x hx e (by simp); omega
      · rw [List.mem_singleton] at hx; subst hx; omega
    · intro hx
      have := hx e (by simp); omega
/-- What a record that is not the next one says when it is written. -/
theorem nx_false {M : List Ent} {e : Ent} (hn : nx M e = false) (h1 : e.2 ≠ []) (h2 : ∀ x ∈ M, x.1 < e.1) : wrE M (toR e) ≠ 0 := by
  rcases wrE_cases M (toR e) with ⟨h, _⟩ | ⟨_, _, h3⟩ | ⟨_, h3, _, h4⟩ | ⟨h, _⟩
  · omega
  · exact absurd h3 h1
  · exfalso
    have hm := (may_iff _).1 h3
    have hpl : pl (toR e) = e.1 := by unfold pl toR; simp only; omega
    rw [hpl] at h4
    have hh : hasM M e.1 = false := by
      rw [← Bool.not_eq_true, hasM_iff]
      rintro ⟨x, hx, e2⟩
      have := h2 x hx; omega
    rcases h4 with h4 | h4
    · rw [hh] at h4; cases h4
    · have : nx M e = true := nx_iff.2 ⟨h1, h2, by have := hm.2.2.2.1; simp only [toR] at this; omega, hm.2.2.2.2, h4⟩
      rw [hn] at this; cases this
  · omega
theorem nx_true {M : List Ent} (hM : Ok M) {e : Ent} (he : e.1 / 65536 ≤ 255) (hb : ∀ c ∈ e.2, c < 256) (hn : nx M e = true) : wrE M (toR e) = 0 ∧ wrM M (toR e) = M ++ [e] := by
  obtain ⟨h1, h2, h3, h4, h5⟩ := nx_iff.1 hn
  have hE : OkE e := ⟨he, h3, h1, h4, hb⟩
  obtain ⟨m1, m2⟩ := hE.may
  have e0 : wrE M (toR e) = 0 := by
    unfold wrE
    rw [if_neg (by simp [m1]), if_neg (show ¬ (toR e).d = [] from h1)]
    split
    · rfl
    · rw [if_neg (by omega)]
  refine ⟨e0, ?_⟩
  unfold wrM
  rw [e0, if_neg (by omega), if_neg (show ¬ (toR e).d = [] from h1), m2]
  exact put_last (List.pairwise_append.2 ⟨hM.srt, List.pairwise_singleton _ _, fun a ha b hb => by rw [List.mem_singleton] at hb; subst hb; exact h2 a ha⟩)
end Sf
/-- What Read leaves. -/
def RdQ (w : World) (l : List Nat) (e : Ending) (w' : World) : Prop :=
  Below w.heap.size w w' ∧ ((rdA l = none ∧ e = .returned (.tuple #[.pointer none, .int .i64 131])) ∨ ∃ M b mo N, rdA l = some M ∧ e = .returned (.tuple #[.pointer (some ⟨b, 0, none⟩), .int .i64 0]) ∧ ShAt w' b mo N M ∧ w.heap.size ≤ b ∧ ∀ m, mo = some m → w.heap.size ≤ m)
/-- A slice's length. -/
def sLenV : Value → Nat
  | .slice _ n _ => n
  | _ => 0
/-- Between two rounds of Read. -/
structure RdI (w : World) (l : List Nat) (b : Nat) (M : List Ent) (A : Option Addr) (cap : Nat) (r : List Nat) (mo : Option Nat) (W : World) : Prop where
  below : Below w.heap.size w W
  sh : ShAt W b mo M.length M
  new : ∀ m, mo = some m → w.heap.size ≤ m
  bs : BsOk w A r cap
  rd : rd r.length M r = rdA l
  len : r.length ≤ l.length
  mlen : M.length + r.length ≤ l.length
set_option maxHeartbeats 4000000 in
theorem read_any {w : World} {A : Option Addr} {l : List Nat} {cap : Nat} (h : BsOk w A l cap) (hl : l.length ≤ 10000000) :
    Calls Try.prog 24 #[.slice A l.length cap] w (RdQ w l) := by
  obtain ⟨bs, hbs⟩ : ∃ bs, w.heap.size = bs := ⟨_, rfl⟩
  have h0 : RdI w l bs [] A cap l none (w.alloc (.cells #[.map none] 27)) :=
    ⟨(Below.refl _ w).alloc (Nat.le_refl _) _, ⟨by rw [← hbs]; exact World.alloc_heap_new w _, fun _ => rfl, fun m e => (by cases e), Ok.nil⟩, fun m e => (by cases e), h, rfl, Nat.le_refl _, by simp⟩
  have H0 := Lib.hid h0
  obtain ⟨P, hP⟩ : ∃ P, P = RdQ w l := ⟨_, rfl⟩
  have HP1 : Hid (rdA l = none → ∀ V, Below w.heap.size w V → P (.returned (.tuple #[.pointer none, .int .i64 131])) V) := Lib.hid (fun h1 V hV => by rw [hP]; exact ⟨hV, .inl ⟨h1, rfl⟩⟩)
  have HP2 : Hid (∀ M mo V, rdA l = some M → Below w.heap.size w V → ShAt V bs mo M.length M → (∀ m, mo = some m → w.heap.size ≤ m) → P (.returned (.tuple #[.pointer (some ⟨bs, 0, none⟩), .int .i64 0])) V) := Lib.hid (fun M mo V h1 hV h2 h3 => by rw [hP]; exact ⟨hV, .inr ⟨M, _, mo, _, h1, rfl, h2, Nat.le_of_eq hbs, h3⟩⟩)
  rw [← hP]
  clear h h0 hP
  have HBS := Lib.hid hbs
  go_enter Try.func24, Try.ntmps24
  go_wp2_with fail
  try rw [hbs]
  clear hbs
  go_loopw [0, 5] (fun bv lv wr => ∃ (M : List Ent) (A' : Option Addr) (cap' : Nat) (r : List Nat) (mo : Option Nat), bv = .slice A' r.length cap' ∧ lv = .int .i64 (lastI M) ∧ RdI w l bs M A' cap' r mo wr) (fun bv _ _ => sLenV bv)
  case atStart => exact ⟨[], A, cap, l, none, rfl, rfl, H0.out⟩
  case round =>
    obtain ⟨M, A', cap', r, mo, rfl, rfl, hI⟩ := hrel
    rename World => V
    have HI := Lib.hid hI
    clear hI
    by_cases hr : r = []
    · subst hr
      have hrd : rdA l = some M := by rw [← HI.out.rd]; rfl
      have HF := Lib.hid (HP2.out M mo V hrd HI.out.below HI.out.sh HI.out.new)
      clear hrd
      simp only [List.length_nil] at *
      go_wp2
      exact HF.out
    · have hpos : 0 < r.length := by cases r with | nil => exact absurd rfl hr | cons => simp
      have d0 : decide ((0 : Int) < (r.length : Int)) = true := by simp; omega
      have d0' : decide (0 < r.length) = true := by simp; omega
      have HFi := Lib.hid (first_any HI.out.bs HI.out.below (by have := HI.out.len; omega))
      have hfuel : rdA l = rd (r.length - 1 + 1) M r := by rw [show r.length - 1 + 1 = r.length by omega]; exact HI.out.rd.symm
      unfold rd at hfuel
      rw [if_neg hr] at hfuel
      have HFu := Lib.hid hfuel
      clear hfuel
      cases hf : fs r with
      | none =>
        have hrd : rdA l = none := by rw [HFu.out, hf]
        have HP3 := Lib.hid (HP1.out hrd)
        have HF2 : Hid (Calls Try.prog 33 #[.slice A' r.length cap'] V fun e w' => e = .returned (.tuple #[.agg #[.int .i64 0, .int .i64 0, .slice none 0 0], .slice none 0 0]) ∧ Below w.heap.size w w') := Lib.hid (HFi.out.mono (fun e w' hq => by
          obtain ⟨hb, hq⟩ := hq
          rw [hf] at hq
          exact ⟨hq, HI.out.below.trans (hb.mono HI.out.below.size)⟩))
        have HPl : Hid (∀ U, Calls Try.prog 27 #[.int .i64 0, .int .i64 0] U fun e w' => e = .returned (.int .i64 0) ∧ U = w') := Lib.hid (fun U => place_any U (k := 0) (n := 0) (by omega) (by omega))
        clear hf hrd HFi HFu HI hr hpos
        generalize r.length = L at *
        generalize lastI M = lm at *
        go_wp2_with fail
        (with_reducible refine HF2.out.mono ?_)
        rintro e V2 ⟨rfl, hb2⟩
        have HF := Lib.hid (HP3.out _ (hb2.alloc hb2.size (.cells #[.int .i64 0, .int .i64 0, .slice none 0 0] 32)))
        clear hb2
        go_wp2_with fail
        (with_reducible refine (HPl.out _).mono ?_)
        rintro e V3 ⟨rfl, rfl⟩
        go_wp2
        exact HF.out
      | some er =>
        obtain ⟨en, r2⟩ := er
        obtain ⟨f1, f2, f3, f4⟩ := fs_ok HI.out.bs.lt hf
        have f5 := fs_len hf
        have hrd : rdA l = if nx M en then rd (r.length - 1) (M ++ [en]) r2 else none := by rw [HFu.out, hf]
        have HF2 : Hid (Calls Try.prog 33 #[.slice A' r.length cap'] V fun e w' => ∃ A1 c1 A2 c2, e = .returned (.tuple #[recA ((en.1 / 65536 : Nat) : Int) ((en.1 % 65536 : Nat) : Int) A1 en.2.length c1, .slice A2 r2.length c2]) ∧ BsOk w A1 en.2 c1 ∧ BsOk w A2 r2 c2 ∧ Below V.heap.size V w') := Lib.hid (HFi.out.mono (fun e w' hq => by
          obtain ⟨hb, hq⟩ := hq
          rw [hf] at hq
          obtain ⟨A1, c1, A2, c2, h1, h2, h3⟩ := hq
          exact ⟨A1, c1, A2, c2, h1, h2, h3, hb⟩))
        have HPl : Hid (∀ U, Calls Try.prog 27 #[.int .i64 ((en.1 / 65536 : Nat) : Int), .int .i64 ((en.1 % 65536 : Nat) : Int)] U fun e w' => e = .returned (.int .i64 (en.1 : Int)) ∧ U = w') := Lib.hid (fun U => by
          have := place_any U (k := en.1 / 65536) (n := en.1 % 65536) (by omega) (by omega)
          rw [show en.1 / 65536 * 65536 + en.1 % 65536 = en.1 by omega] at this
          exact this)
        have HRD := Lib.hid hrd
        have HOk := Lib.hid HI.out.sh.ok
        have hlast := lastI_lt HOk.out.srt en.1
        by_cases hd : en.2 = []
        · have hnx : nx M en = false := by rw [← Bool.not_eq_true, nx_iff]; exact fun h => h.1 hd
          have HP3 := Lib.hid (HP1.out (by rw [HRD.out, hnx]; rfl))
          have hl0 : en.2.length = 0 := by rw [hd]; rfl
          rw [hl0] at HF2
          have HB := Lib.hid HI.out.below
          clear hf hrd HFi HFu HI hr hpos f1 f2 f3 f4 f5 hlast hnx hl0 HRD
          generalize ((en.1 / 65536 : Nat) : Int) = pk at *
          generalize ((en.1 % 65536 : Nat) : Int) = pn at *
          generalize r.length = L at *
          generalize r2.length = L2 at *
          generalize lastI M = lm at *
          go_wp2_with fail
          (with_reducible refine HF2.out.mono ?_)
          rintro e V2 ⟨A1, c1, A2, c2, rfl, _, _, hb2⟩
          have HF := Lib.hid (HP3.out _ ((HB.out.trans (hb2.mono HB.out.size)).alloc (Nat.le_trans HB.out.size hb2.size) (recO pk pn A1 0 c1)))
          clear hb2
          go_wp2_with fail
          (with_reducible refine (HPl.out _).mono ?_)
          rintro e V3 ⟨rfl, rfl⟩
          go_wp2
          exact HF.out
        · have hLpos : 0 < en.2.length := by cases h0 : en.2 with | nil => exact absurd h0 hd | cons => simp
          have e1 : ((en.2.length : Int) == 0) = false := by simp; omega
          have e1' : (en.2.length == 0) = false := by simp; omega
          by_cases hlt : lastI M < (en.1 : Int)
          · have hNb : M.length < 10000000 := by have := HOk.out.len; omega
            have HW : Hid (∀ V2 A1 c1, BsOk w A1 en.2 c1 → Below V.heap.size V V2 → Calls Try.prog 11 #[.pointer (some ⟨bs, 0, none⟩), recA ((en.1 / 65536 : Nat) : Int) ((en.1 % 65536 : Nat) : Int) A1 en.2.length c1] (V2.alloc (recO ((en.1 / 65536 : Nat) : Int) ((en.1 % 65536 : Nat) : Int) A1 en.2.length c1)) fun e w' => e = .returned (.int .i64 (wrE M (toR en) : Nat)) ∧ ∃ mo', ShAt w' bs mo' (M.length + 1) (wrM M (toR en)) ∧ Below w.heap.size w w' ∧ ∀ m, mo' = some m → w.heap.size ≤ m) := Lib.hid (fun V2 A1 c1 h1 hb => by
              have hw := HI.out.below.size
              have hal : Below V.heap.size V (V2.alloc (recO ((en.1 / 65536 : Nat) : Int) ((en.1 % 65536 : Nat) : Int) A1 en.2.length c1)) := hb.alloc hb.size _
              have hwA : Below w.heap.size w (V2.alloc (recO ((en.1 / 65536 : Nat) : Int) ((en.1 % 65536 : Nat) : Int) A1 en.2.length c1)) := HI.out.below.trans (hal.mono hw)
              have h2 := h1.below hwA
              refine (write_any (r := toR en) (HI.out.sh.below hal) hNb ⟨h2.dat, h2.nil, h2.lt⟩).mono ?_
              rintro e w' ⟨rfl, mo', g1, g2, g3⟩
              refine ⟨rfl, mo', g1, hwA.trans (g2.below (fun k hk => ?_) hwA.size), fun m e => ?_⟩
              · rcases hk with rfl | hk
                · exact Nat.le_of_eq HBS.out
                · exact HI.out.new k hk
              · rcases g3 m e with g | g
                · exact HI.out.new m g
                · have := hwA.size; omega)
            have e2 : decide ((en.1 : Int) ≤ lastI M) = false := by simp; omega
            have hall := hlast.1 hlt
            cases hnx : nx M en with
            | false =>
              have hec := nx_false hnx hd hall
              have HP3 := Lib.hid (HP1.out (by rw [HRD.out, hnx]; rfl))
              clear hf hrd HFi HFu HI hr hpos f1 f2 f3 f4 f5 hlast hnx HRD hlt hLpos hd hall hNb
              generalize wrE M (toR en) = ec at *
              have d1 : ((ec : Int) != 0) = true := by simp; omega
              have d2 : (ec != 0) = true := by simp; omega
              clear hec
              generalize ((en.1 / 65536 : Nat) : Int) = pk at *
              generalize ((en.1 % 65536 : Nat) : Int) = pn at *
              have HLd : Hid (∃ Ld, Ld = en.2.length) := Lib.hid ⟨_, rfl⟩
              generalize hLd : en.2.length = Ld at *
              have HLd2 := Lib.hid hLd
              clear hLd
              generalize en.1 = ep at *
              generalize r.length = L at *
              generalize r2.length = L2 at *
              generalize lastI M = lm at *
              go_wp2_with fail
              (with_reducible refine HF2.out.mono ?_)
              rintro e V2 ⟨A1, c1, A2, c2, rfl, hA1, _, hb2⟩
              have HW2 := Lib.hid (HW.out _ _ _ hA1 hb2)
              clear hb2 hA1 HW
              go_wp2_with fail
              (with_reducible refine (HPl.out _).mono ?_)
              rintro e V3 ⟨rfl, rfl⟩
              go_wp2_with fail
              (with_reducible refine HW2.out.mono ?_)
              rintro e V4 ⟨rfl, mo', _, hb4, _⟩
              have HF := Lib.hid (HP3.out _ hb4)
              clear hb4
              go_wp2
              exact HF.out
            | true =>
              obtain ⟨hec, hwm⟩ := nx_true HOk.out f2 f3 hnx
              have HNext : Hid (∀ (V4 : World) (A2 : Option Addr) (c2 : Nat) (mo' : Option Nat), BsOk w A2 r2 c2 → ShAt V4 bs mo' (M.length + 1) (wrM M (toR en)) → Below w.heap.size w V4 → (∀ m, mo' = some m → w.heap.size ≤ m) → RdI w l bs (M ++ [en]) A2 c2 r2 mo' V4) := Lib.hid (fun V4 A2 c2 mo' h1 h2 h3 h4 => by
                refine ⟨h3, ?_, h4, h1, ?_, ?_, ?_⟩
                · rw [hwm] at h2; simpa using h2
                · rw [HRD.out, hnx, if_pos rfl]
                  exact rd_fuel _ _ _ _ (Nat.le_refl _) (by omega)
                · have := HI.out.len; omega
                · have := HI.out.mlen; simp; omega)
              have HL2 : Hid (r2.length < r.length) := Lib.hid (by omega)
              have hle : (en.1 : Int) = lastI (M ++ [en]) := (lastI_snoc M en).symm
              have HLE := Lib.hid hle
              rw [hec] at HW
              clear hf hrd HFi HFu HI hr hpos f1 f2 f3 f4 f5 hlast hnx HRD hlt hLpos hd hall hNb hle hec hwm
              generalize ((en.1 / 65536 : Nat) : Int) = pk at *
              generalize ((en.1 % 65536 : Nat) : Int) = pn at *
              generalize hLd : en.2.length = Ld at *
              have HLd2 := Lib.hid hLd
              clear hLd
              generalize hep : (en.1 : Int) = ep at *
              have HEp := Lib.hid hep
              clear hep
              generalize hrl : r.length = L at *
              have HRl := Lib.hid hrl
              clear hrl
              generalize hrl2 : r2.length = L2 at *
              have HRl2 := Lib.hid hrl2
              clear hrl2
              generalize lastI M = lm at *
              go_wp2_with fail
              (with_reducible refine HF2.out.mono ?_)
              rintro e V2 ⟨A1, c1, A2, c2, rfl, hA1, hA2, hb2⟩
              have HW2 := Lib.hid (HW.out _ _ _ hA1 hb2)
              have HA2 := Lib.hid hA2
              clear hb2 hA1 hA2 HW
              go_wp2_with fail
              (with_reducible refine (HPl.out _).mono ?_)
              rintro e V3 ⟨rfl, rfl⟩
              go_wp2_with fail
              (with_reducible refine HW2.out.mono ?_)
              rintro e V4 ⟨rfl, mo', h4, hb4, hn4⟩
              have HI4 := Lib.hid (HNext.out V4 A2 c2 mo' HA2.out h4 hb4 hn4)
              clear h4 hb4 hn4 HNext
              go_wp2
              go_roundw
              case rel => exact ⟨M ++ [en], A2, c2, r2, mo', by rw [HRl2.out], by rw [← HLE.out], HI4.out⟩
              case measure => simp only [sLenV]; exact HL2.out
          · have hnx : nx M en = false := by rw [← Bool.not_eq_true, nx_iff]; exact fun h => hlt (hlast.2 h.2.1)
            have HP3 := Lib.hid (HP1.out (by rw [HRD.out, hnx]; rfl))
            have HB := Lib.hid HI.out.below
            have e2 : decide ((en.1 : Int) ≤ lastI M) = true := by simp; omega
            clear hf hrd HFi HFu HI hr hpos f1 f2 f3 f4 f5 hlast hnx HRD hlt hLpos hd
            generalize ((en.1 / 65536 : Nat) : Int) = pk at *
            generalize ((en.1 % 65536 : Nat) : Int) = pn at *
            generalize en.2.length = Ld at *
            generalize en.1 = ep at *
            generalize r.length = L at *
            generalize r2.length = L2 at *
            generalize lastI M = lm at *
            go_wp2_with fail
            (with_reducible refine HF2.out.mono ?_)
            rintro e V2 ⟨A1, c1, A2, c2, rfl, _, _, hb2⟩
            have HF := Lib.hid (HP3.out _ ((HB.out.trans (hb2.mono HB.out.size)).alloc (Nat.le_trans HB.out.size hb2.size) (recO pk pn A1 Ld c1)))
            clear hb2
            go_wp2_with fail
            (with_reducible refine (HPl.out _).mono ?_)
            rintro e V3 ⟨rfl, rfl⟩
            go_wp2
            exact HF.out
end Go.Proofs.Ytgciibcngmimkaa
