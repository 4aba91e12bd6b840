/-
  route.Find, Dist, Looks.
-/
import Derived.Test.YtkfijjjnidiejaaDoorLk5
import Derived.Test.YtkfijjjnidiejaaDoorPt
import Derived.Test.YtkfijjjnidiejaaDoorRt1
namespace Go.Proofs.YtkfijjjnidiejaaDoor
set_option maxRecDepth 100000
open Go Go.RowKit Rq

/-- May a way have the cell? -/
def mayZ (ban : List Int) (fr c : Nat) : Bool := !(decide (((c : Nat) : Int) ∈ ban)) || decide (c = fr)
/-- How much is left at least. -/
def hZ (C N fr c : Nat) : Nat := (farZ C N (fr : Int) (c : Int)).toNat
def dsZ (R C : Nat) (ms : List UInt8) (ban : List Int) (fr to_ x : Nat) : Option Nat := dsO ms.length (outs R C ms) (mayZ ban fr) to_ x
def looksN (R C : Nat) (ms : List UInt8) (ban : List Int) (fr to_ : Nat) : Nat := looksF ms.length (outs R C ms) (mayZ ban fr) to_ fr (hZ C ms.length fr)
def routeZ (R C : Nat) (ms : List UInt8) (ban : List Int) (fr to_ D : Nat) : List Nat := pthR ms.length (outs R C ms) (mayZ ban fr) to_ D fr
/-- What Find tells. -/
def findZ (R C : Nat) (ms : List UInt8) (fr to_ : Int) (ban : List Int) (bud : Int) : List Nat × Int :=
  if (freeB ms fr && freeB ms to_) = true then
    if bud < ((looksN R C ms ban fr.toNat to_.toNat : Nat) : Int) then ([], 41)
    else match dsZ R C ms ban fr.toNat to_.toNat fr.toNat with
      | none => ([], 40)
      | some D => (routeZ R C ms ban fr.toNat to_.toNat D, 0)
  else ([], 2)
/-- What Dist tells. -/
def distZ (R C : Nat) (ms : List UInt8) (fr to_ : Int) (ban : List Int) : Int × Int :=
  if (freeB ms fr && freeB ms to_) = true then
    match dsZ R C ms ban fr.toNat to_.toNat fr.toNat with
      | none => (0, 40)
      | some D => ((D : Int), 0)
  else (0, 2)
/-- What Looks tells. -/
def looksZ (R C : Nat) (ms : List UInt8) (fr to_ : Int) (ban : List Int) : Int × Int :=
  if (freeB ms fr && freeB ms to_) = true then (((looksN R C ms ban fr.toNat to_.toNat : Nat) : Int), 0) else (0, 2)

def FindP (bm gm cm R C : Nat) (ms : List UInt8) (x : List Nat × Int) (w : World) (e : Ending) (w' : World) : Prop :=
  ∃ v, e = .returned (.tuple #[v, .int .i64 x.2]) ∧ EmX bm gm cm R C ms w w' ∧ w'.ownsRow w.heap.size 3 1 v x.1.length (x.1.map natV)
def NumP (bm gm cm R C : Nat) (ms : List UInt8) (x : Int × Int) (w : World) (e : Ending) (w' : World) : Prop :=
  e = .returned (.tuple #[.int .i64 x.1, .int .i64 x.2]) ∧ EmX bm gm cm R C ms w w'

theorem row_low {w : World} {b b' s n : Nat} {e : TypeId} {v : Value} {xs : List Value} (h : w.ownsRow b' e s v n xs) (hb : b ≤ b') : w.ownsRow b e s v n xs :=
  ⟨h.1, h.2.imp id (fun ⟨g, cap, cur, hv, h1, r⟩ => ⟨g, cap, cur, hv, Nat.le_trans hb h1, r⟩)⟩

theorem bkN (R C : Nat) (ms : List UInt8) : ∀ x b, b ∈ ins R C ms x ↔ b < ms.length ∧ x ∈ outs R C ms b := fun _ _ => ins_mem

theorem emx_look {bm gm cm R C : Nat} {ms : List UInt8} {w w1 w2 : World} {bs bb m fr to_ : Nat} {ban : List Int} {M : List (Nat × Nat)} (hE : EM bm gm cm R C ms w) (hb : Below w.heap.size w w1) (hL : LookL ⟨bm, gm, cm, R, C, ms, bs, bb, m, fr, to_, ban⟩ w1 M w2) (hm : w.heap.size ≤ m) : EmX bm gm cm R C ms w w2 := by
  have k0 : Kept (fun _ => False) w w1 := Kept.of_below hb (Nat.le_refl _)
  obtain ⟨_, t1⟩ := hE.keptX k0 (fun _ _ => id)
  refine ⟨hL.se.em, fun k hk => ?_, (k0.mono (fun _ _ h => h.elim)).trans hL.kp (fun i hi e => ?_)⟩
  · rcases hL.ts k hk with h1 | h1
    · exact .inl (t1 k h1)
    · exact .inr (Nat.le_trans k0.size h1)
  · rcases e with e | e
    · exact e
    · have e : i = m := e
      omega

theorem lftE {E : Env} {w : World} (hE : EM E.bm E.gm E.cm E.R E.C E.ms w) (hf0 : E.fr < E.N) : Lft (ins E.R E.C E.ms) (lftF E) E.fr := by
  refine ⟨fun x b hb => ?_, ?_⟩
  · obtain ⟨h1, h2, h3⟩ := ins_far hE.hC hE.hN hb
    have hN : E.N = E.ms.length := rfl
    have e1 := lft_int (E := E) hf0 (c := b) (by omega)
    have e2 := lft_int (E := E) hf0 (c := x) (by omega)
    have hf := hf0
    unfold farZ at e1 e2
    rw [if_pos (by omega)] at e1 e2
    simp only [Int.toNat_natCast] at e1 e2
    unfold apartZ at h3 e1 e2
    generalize b / E.C = q1 at *
    generalize b % E.C = q2 at *
    generalize x / E.C = q3 at *
    generalize x % E.C = q4 at *
    generalize E.fr / E.C = q5 at *
    generalize E.fr % E.C = q6 at *
    omega
  · have hN : E.N = E.ms.length := rfl
    have e1 := lft_int (E := E) hf0 (c := E.fr) hf0
    have hf := hf0
    unfold farZ at e1
    rw [if_pos (by omega)] at e1
    unfold apartZ at e1
    omega

/-- What look tells, in numbers. -/
theorem look_all {bm gm cm R C bs bb m fr to_ : Nat} {ms : List UInt8} {ban : List Int} {M : List (Nat × Nat)} {w1 w2 : World} (hL : LookL ⟨bm, gm, cm, R, C, ms, bs, bb, m, fr, to_, ban⟩ w1 M w2) (h : LkAll ⟨bm, gm, cm, R, C, ms, bs, bb, m, fr, to_, ban⟩ M) :
    M.length = looksN R C ms ban fr to_ ∧ (metB M fr = false → dsZ R C ms ban fr to_ fr = none) ∧ (∀ D, (fr, D) ∈ M → dsZ R C ms ban fr to_ fr = some D) := by
  have he : to_ < ms.length := hL.se.to_
  refine ⟨looks_eq he (bkN R C ms) hL.nd h, fun hm => ?_, fun D hD => ?_⟩
  · refine (dsO_none he (bkN R C ms)).2 (fun n hw => ?_)
    obtain ⟨D, _, hD⟩ := hw.ds
    have hz := (lftE (E := ⟨bm, gm, cm, R, C, ms, bs, bb, m, fr, to_, ban⟩) hL.se.em hL.se.fr).zero
    refine metB_false.1 hm ⟨D, (h fr D).2 ⟨hD, fun D' hD' => ?_⟩⟩
    have e1 : D' = D := hD'.uniq hD
    have e2 : lftF ⟨bm, gm, cm, R, C, ms, bs, bb, m, fr, to_, ban⟩ fr = 0 := hz
    omega
  · exact (dsO_some he (bkN R C ms)).2 ((h fr D).1 hD).1
theorem look_some {bm gm cm R C bs bb m fr to_ : Nat} {ms : List UInt8} {ban : List Int} {M : List (Nat × Nat)} {w1 w2 : World} (hL : LookL ⟨bm, gm, cm, R, C, ms, bs, bb, m, fr, to_, ban⟩ w1 M w2) : M.length ≤ looksN R C ms ban fr to_ :=
  looks_le (show to_ < ms.length from hL.se.to_) (bkN R C ms) hL.nd hL.lk
theorem looksN_le (R C : Nat) (ms : List UInt8) (ban : List Int) (fr to_ : Nat) : looksN R C ms ban fr to_ ≤ ms.length := by
  have := List.length_filter_le (lkC ms.length (outs R C ms) (mayZ ban fr) to_ fr (hZ C ms.length fr)) (List.range ms.length)
  rw [List.length_range] at this
  exact this

/-- The way by what was met is the route; what path asks. -/
theorem path_route {bm gm cm R C bs bb m fr to_ : Nat} {ms : List UInt8} {ban : List Int} {M : List (Nat × Nat)} {w1 w2 : World} (hL : LookL ⟨bm, gm, cm, R, C, ms, bs, bb, m, fr, to_, ban⟩ w1 M w2) (h : LkAll ⟨bm, gm, cm, R, C, ms, bs, bb, m, fr, to_, ban⟩ M) {D : Nat} (hD : (fr, D) ∈ M) :
    pthF (outs R C ms) (PM M) D fr = routeZ R C ms ban fr to_ D ∧ (∀ c d, (c, d) ∈ M → c < ms.length ∧ d < ms.length) ∧ (∀ c d d', (c, d) ∈ M → (c, d') ∈ M → d = d') ∧ (∀ c d, (c, d + 1) ∈ M → ∃ y ∈ outs R C ms c, (y, d) ∈ M) := by
  have he : to_ < ms.length := hL.se.to_
  have hfr : fr < ms.length := hL.se.fr
  have hl := lftE (E := ⟨bm, gm, cm, R, C, ms, bs, bb, m, fr, to_, ban⟩) hL.se.em hL.se.fr
  have hDs := ((h fr D).1 hD).1
  have hz : lftF ⟨bm, gm, cm, R, C, ms, bs, bb, m, fr, to_, ban⟩ fr = 0 := hl.zero
  have hb : ∀ x b, b ∈ ins R C ms x → b < ms.length := fun x b hb => (ins_mem.1 hb).1
  refine ⟨pth_route he (bkN R C ms) hl h hDs D fr hfr hDs (by omega), fun c d hm => ?_, fun c d d' h1 h2 => ((h c d).1 h1).1.uniq ((h c d').1 h2).1, fun c d hm => ?_⟩
  · have hk := ((h c d).1 hm).1
    exact ⟨hk.1.lt he hb, hk.lt he hb⟩
  · have hk := (h c (d + 1)).1 hm
    obtain ⟨y, h1, h2⟩ := hk.1.pred
    refine ⟨y, (ins_mem.1 h1).2, (h y d).2 ⟨h2, fun D' hD' => ?_⟩⟩
    have h3 := hk.2 D' hD'
    have h4 : lftF ⟨bm, gm, cm, R, C, ms, bs, bb, m, fr, to_, ban⟩ y ≤ lftF ⟨bm, gm, cm, R, C, ms, bs, bb, m, fr, to_, ban⟩ c + 1 := (hl.one y c h1).2 |> fun h => by have := (hl.one y c h1).1; omega
    have h3' : d + 1 + lftF ⟨bm, gm, cm, R, C, ms, bs, bb, m, fr, to_, ban⟩ c ≤ D' := h3
    omega

section
variable {bm gm cm R C : Nat} {ms : List UInt8} {w : World} {B : Option Addr} {ban : List Int} {cb : Nat}

/-- begin, and look. -/
theorem begun (hE : EM bm gm cm R C ms w) {fr to_ : Nat} {w1 w2 : World} {bs bb m : Nat} {M : List (Nat × Nat)} (hb : Below w.heap.size w w1) (hm : w.heap.size ≤ m) (hL : LookL ⟨bm, gm, cm, R, C, ms, bs, bb, m, fr, to_, ban⟩ w1 M w2) : EmX bm gm cm R C ms w w2 := emx_look hE hb hL hm

set_option maxHeartbeats 2000000 in
theorem find_ok {fr to_ : Nat} (hE : EM bm gm cm R C ms w) (hB : IntsAt w B ban) (hbm : ban.length ≤ maxLen) (bud : Int) (h1 : freeB ms (fr : Int) = true) (h2 : freeB ms (to_ : Int) = true) (hfr : fr < ms.length) (hto : to_ < ms.length) :
    Calls Tryd.prog 11 #[.pointer (some ⟨bm, 0, none⟩), .int .i64 (fr : Int), .int .i64 (to_ : Int), .slice B ban.length cb, .int .i64 bud] w (FindP bm gm cm R C ms (findZ R C ms (fr : Int) (to_ : Int) ban bud) w) := by
  have HB := Lib.hid (begin_ok (cb := cb) hE hB hbm h1 h2 hfr hto)
  have HE := Lib.hid hE
  have hfz : Hid (findZ R C ms (fr : Int) (to_ : Int) ban bud = if bud < ((looksN R C ms ban fr to_ : Nat) : Int) then (([] : List Nat), (41 : Int)) else match dsZ R C ms ban fr to_ fr with | none => ([], 40) | some D => (routeZ R C ms ban fr to_ D, 0)) := by
    show _ = _
    unfold findZ
    rw [h1, h2]
    rfl
  have hNn : ms.length ≤ 1024 := by rw [← hE.hN]; exact Nat.mul_le_mul hE.hR hE.hC2
  clear hE hB h1 h2
  go_enter Tryd.func11, Tryd.ntmps11
  go_wp2_with fail
  refine HB.out.mono ?_
  rintro e w1 ⟨bs, bb, m, rfl, hse, hbel, g1, g2, g3⟩
  have HL := Lib.hid (look_any hse bud)
  have HBel := Lib.hid hbel
  have HM := Lib.hid g3
  clear HB hse hbel g1 g2 g3
  go_wp2_with fail
  refine HL.out.mono ?_
  rintro e w2 ⟨b, M, rfl, hll, ht, hf⟩
  have HLL := Lib.hid hll
  have HX : Hid (EmX bm gm cm R C ms w w2) := begun HE.out HBel.out HM.out hll
  clear HL hll
  cases b with
  | false =>
    have HF : Hid (FindP bm gm cm R C ms (findZ R C ms (fr : Int) (to_ : Int) ban bud) w (.returned (.tuple #[.slice none 0 0, .int .i64 41])) w2) := by
      have h3 := look_some HLL.out
      have h4 := hf rfl
      have e1 : findZ R C ms (fr : Int) (to_ : Int) ban bud = ([], 41) := by rw [hfz.out, if_pos (by omega)]
      rw [e1]
      exact ⟨_, rfl, HX.out, World.ownsRow_nil _ _ _ _⟩
    clear ht hf hfz HLL
    go_wp2
    go_ret2
    exact HF.out
  | true =>
    obtain ⟨hall, hle⟩ := ht rfl
    obtain ⟨e1, e2, e3⟩ := look_all HLL.out hall
    have HFd := Lib.hid (found_any (E := ⟨bm, gm, cm, R, C, ms, bs, bb, m, fr, to_, ban⟩) HLL.out.se.obj HLL.out.se.map (by show fr ≤ 100000; omega))
    have hnb : ¬ bud < ((looksN R C ms ban fr to_ : Nat) : Int) := by omega
    cases hm : metB M fr with
    | false =>
      have HF : Hid (FindP bm gm cm R C ms (findZ R C ms (fr : Int) (to_ : Int) ban bud) w (.returned (.tuple #[.slice none 0 0, .int .i64 40])) w2) := by
        have e4 : findZ R C ms (fr : Int) (to_ : Int) ban bud = ([], 40) := by rw [hfz.out, if_neg hnb, e2 hm]
        rw [e4]
        exact ⟨_, rfl, HX.out, World.ownsRow_nil _ _ _ _⟩
      have HFd2 : Hid (Calls Tryd.prog 30 #[.pointer (some ⟨bs, 0, none⟩)] w2 fun e w' => e = .returned (.bool false) ∧ w2 = w') := by rw [← hm]; exact HFd.out
      clear ht hf hfz HLL HFd hall hle e1 e2 e3 hnb hm
      go_wp2_with (with_reducible refine HFd2.out.mono ?_; rintro e w' ⟨rfl, rfl⟩)
      go_ret2
      exact HF.out
    | true =>
      obtain ⟨D, hD⟩ := metB_true.1 hm
      obtain ⟨p1, p2, p3, p4⟩ := path_route HLL.out hall hD
      have HP := Lib.hid (path_any HLL.out.se hNn hD p2 p3 p4)
      have HFd2 : Hid (Calls Tryd.prog 30 #[.pointer (some ⟨bs, 0, none⟩)] w2 fun e w' => e = .returned (.bool true) ∧ w2 = w') := by rw [← hm]; exact HFd.out
      have HF : Hid (∀ e w', PathP ⟨bm, gm, cm, R, C, ms, bs, bb, m, fr, to_, ban⟩ w2 M D e w' → ∃ v, e = .returned v ∧ FindP bm gm cm R C ms (findZ R C ms (fr : Int) (to_ : Int) ban bud) w (.returned (.tuple #[v, .int .i64 0])) w') := by
        rintro e w' ⟨v, rfl, hx, ho⟩
        have e4 : findZ R C ms (fr : Int) (to_ : Int) ban bud = (routeZ R C ms ban fr to_ D, 0) := by rw [hfz.out, if_neg hnb, e3 D hD]
        rw [e4]
        refine ⟨v, rfl, v, rfl, HX.out.trans hx, ?_⟩
        have ho2 : w'.ownsRow w2.heap.size 3 1 v (D + 1) ((pthF (outs R C ms) (PM M) D fr).map natV) := ho
        rw [p1] at ho2
        have hlen : (routeZ R C ms ban fr to_ D).length = D + 1 := pthR_len D fr
        show w'.ownsRow w.heap.size 3 1 v (routeZ R C ms ban fr to_ D).length ((routeZ R C ms ban fr to_ D).map natV)
        rw [hlen]
        exact row_low ho2 HX.out.kp.size
      clear ht hf hfz HLL HFd hall hle e1 e2 e3 hnb hm p1 p2 p3 p4 hD
      go_wp2_with (first
        | (go_at_call 30; (with_reducible refine HFd2.out.mono ?_); rintro e w' ⟨rfl, rfl⟩)
        | (go_at_call 32; (with_reducible refine HP.out.mono ?_); intro e w3 hp; obtain ⟨v, rfl, hq⟩ := HF.out e w3 hp; have HQ := Lib.hid hq; clear hp hq))
      go_ret2
      exact HQ.out

theorem find_bad {fr to_ : Int} {n : Nat} (hE : EM bm gm cm R C ms w) (bud : Int) (hb : (freeB ms fr && freeB ms to_) = false) :
    Calls Tryd.prog 11 #[.pointer (some ⟨bm, 0, none⟩), .int .i64 fr, .int .i64 to_, .slice B n cb, .int .i64 bud] w (FindP bm gm cm R C ms (findZ R C ms fr to_ ban bud) w) := by
  have HB := Lib.hid (begin_bad (B := B) (n := n) (cb := cb) hE hb)
  have HF : Hid (FindP bm gm cm R C ms (findZ R C ms fr to_ ban bud) w (.returned (.tuple #[.slice none 0 0, .int .i64 2])) w) := by
    have e1 : findZ R C ms fr to_ ban bud = ([], 2) := by unfold findZ; rw [hb]; rfl
    rw [e1]
    exact ⟨_, rfl, EmX.refl hE, World.ownsRow_nil _ _ _ _⟩
  clear hE hb
  go_enter Tryd.func11, Tryd.ntmps11
  go_wp2_with (with_reducible refine HB.out.mono ?_; rintro e w' ⟨rfl, rfl⟩)
  go_ret2
  exact HF.out
theorem finds_any {fr to_ : Int} (hE : EM bm gm cm R C ms w) (hB : IntsAt w B ban) (hbm : ban.length ≤ maxLen) (bud : Int) :
    Calls Tryd.prog 11 #[.pointer (some ⟨bm, 0, none⟩), .int .i64 fr, .int .i64 to_, .slice B ban.length cb, .int .i64 bud] w (FindP bm gm cm R C ms (findZ R C ms fr to_ ban bud) w) := by
  cases hb : freeB ms fr && freeB ms to_ with
  | false => exact find_bad hE bud hb
  | true =>
    obtain ⟨h1, h2⟩ := Bool.and_eq_true_iff.1 hb
    obtain ⟨h3, h4⟩ := free_range h1
    obtain ⟨h5, h6⟩ := free_range h2
    obtain ⟨f, rfl⟩ := Int.eq_ofNat_of_zero_le h3
    obtain ⟨t, rfl⟩ := Int.eq_ofNat_of_zero_le h5
    exact find_ok hE hB hbm bud h1 h2 (by omega) (by omega)

set_option maxHeartbeats 2000000 in
theorem dist_ok {fr to_ : Nat} (hE : EM bm gm cm R C ms w) (hB : IntsAt w B ban) (hbm : ban.length ≤ maxLen) (h1 : freeB ms (fr : Int) = true) (h2 : freeB ms (to_ : Int) = true) (hfr : fr < ms.length) (hto : to_ < ms.length) :
    Calls Tryd.prog 8 #[.pointer (some ⟨bm, 0, none⟩), .int .i64 (fr : Int), .int .i64 (to_ : Int), .slice B ban.length cb] w (NumP bm gm cm R C ms (distZ R C ms (fr : Int) (to_ : Int) ban) w) := by
  have HB := Lib.hid (begin_ok (cb := cb) hE hB hbm h1 h2 hfr hto)
  have HE := Lib.hid hE
  have hfz : Hid (distZ R C ms (fr : Int) (to_ : Int) ban = match dsZ R C ms ban fr to_ fr with | none => ((0 : Int), (40 : Int)) | some D => ((D : Int), 0)) := by
    show _ = _
    unfold distZ
    rw [h1, h2]
    rfl
  have hNn : ms.length ≤ 1024 := by rw [← hE.hN]; exact Nat.mul_le_mul hE.hR hE.hC2
  clear hE hB h1 h2
  go_enter Tryd.func8, Tryd.ntmps8
  go_wp2_with fail
  refine HB.out.mono ?_
  rintro e w1 ⟨bs, bb, m, rfl, hse, hbel, g1, g2, g3⟩
  have HL := Lib.hid (look_any hse ((ms.length : Nat) : Int))
  have HBel := Lib.hid hbel
  have HM := Lib.hid g3
  have HC := Lib.hid (cells_any bm _ _ _ w1 hse.em.c2)
  clear HB hse hbel g1 g2 g3
  go_wp2_with (with_reducible refine HC.out.mono ?_; rintro e w' ⟨rfl, rfl⟩)
  refine HL.out.mono ?_
  rintro e w2 ⟨b, M, rfl, hll, ht, hf⟩
  have HLL := Lib.hid hll
  have HX : Hid (EmX bm gm cm R C ms w w2) := begun HE.out HBel.out HM.out hll
  have hb : b = true := by
    cases b with
    | true => rfl
    | false =>
      have h3 := look_some hll
      have h4 := hf rfl
      have h5 := looksN_le R C ms ban fr to_
      omega
  subst hb
  obtain ⟨hall, _⟩ := ht rfl
  obtain ⟨_, e2, e3⟩ := look_all hll hall
  have HFd := Lib.hid (found_any (E := ⟨bm, gm, cm, R, C, ms, bs, bb, m, fr, to_, ban⟩) hll.se.obj hll.se.map (by show fr ≤ 100000; omega))
  have f4 : w2.cell? ⟨bs, 4, none⟩ = some (.map (some m)) := hll.se.obj.c4
  clear HL hll ht hf
  cases hm : metB M fr with
  | false =>
    have HF : Hid (NumP bm gm cm R C ms (distZ R C ms (fr : Int) (to_ : Int) ban) w (.returned (.tuple #[.int .i64 0, .int .i64 40])) w2) := by
      rw [hfz.out, e2 hm]
      exact ⟨rfl, HX.out⟩
    have HFd2 : Hid (Calls Tryd.prog 30 #[.pointer (some ⟨bs, 0, none⟩)] w2 fun e w' => e = .returned (.bool false) ∧ w2 = w') := by rw [← hm]; exact HFd.out
    clear hfz HLL HFd hall e2 e3 hm
    go_wp2_with (with_reducible refine HFd2.out.mono ?_; rintro e w' ⟨rfl, rfl⟩)
    go_ret2
    exact HF.out
  | true =>
    obtain ⟨D, hD⟩ := metB_true.1 hm
    have hlk := map_look (m := m) HLL.out.se.map hD (by omega)
    have HF : Hid (NumP bm gm cm R C ms (distZ R C ms (fr : Int) (to_ : Int) ban) w (.returned (.tuple #[.int .i64 (D : Int), .int .i64 0])) w2) := by
      rw [hfz.out, e3 D hD]
      exact ⟨rfl, HX.out⟩
    have HFd2 : Hid (Calls Tryd.prog 30 #[.pointer (some ⟨bs, 0, none⟩)] w2 fun e w' => e = .returned (.bool true) ∧ w2 = w') := by rw [← hm]; exact HFd.out
    clear hfz HLL HFd hall e2 e3 hm hD
    go_wp2_with (with_reducible refine HFd2.out.mono ?_; rintro e w' ⟨rfl, rfl⟩)
    go_ret2
    exact HF.out

theorem dist_bad {fr to_ : Int} {n : Nat} (hE : EM bm gm cm R C ms w) (hb : (freeB ms fr && freeB ms to_) = false) :
    Calls Tryd.prog 8 #[.pointer (some ⟨bm, 0, none⟩), .int .i64 fr, .int .i64 to_, .slice B n cb] w (NumP bm gm cm R C ms (distZ R C ms fr to_ ban) w) := by
  have HB := Lib.hid (begin_bad (B := B) (n := n) (cb := cb) hE hb)
  have HF : Hid (NumP bm gm cm R C ms (distZ R C ms fr to_ ban) w (.returned (.tuple #[.int .i64 0, .int .i64 2])) w) := by
    have e1 : distZ R C ms fr to_ ban = (0, 2) := by unfold distZ; rw [hb]; rfl
    rw [e1]
    exact ⟨rfl, EmX.refl hE⟩
  clear hE hb
  go_enter Tryd.func8, Tryd.ntmps8
  go_wp2_with (with_reducible refine HB.out.mono ?_; rintro e w' ⟨rfl, rfl⟩)
  go_ret2
  exact HF.out
theorem dists_any {fr to_ : Int} (hE : EM bm gm cm R C ms w) (hB : IntsAt w B ban) (hbm : ban.length ≤ maxLen) :
    Calls Tryd.prog 8 #[.pointer (some ⟨bm, 0, none⟩), .int .i64 fr, .int .i64 to_, .slice B ban.length cb] w (NumP bm gm cm R C ms (distZ R C ms fr to_ ban) w) := by
  cases hb : freeB ms fr && freeB ms to_ with
  | false => exact dist_bad hE hb
  | true =>
    obtain ⟨h1, h2⟩ := Bool.and_eq_true_iff.1 hb
    obtain ⟨h3, h4⟩ := free_range h1
    obtain ⟨h5, h6⟩ := free_range h2
    obtain ⟨f, rfl⟩ := Int.eq_ofNat_of_zero_le h3
    obtain ⟨t, rfl⟩ := Int.eq_ofNat_of_zero_le h5
    exact dist_ok hE hB hbm h1 h2 (by omega) (by omega)

end
end Go.Proofs.YtkfijjjnidiejaaDoor
