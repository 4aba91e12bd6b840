/-
  A search in memory: may, met, found, left, and what pushes.
-/
import Derived.Test.YtkfijjjnidiejaaDoorQMap
import Derived.Deep.RegionHeld3
namespace Go.Proofs.YtkfijjjnidiejaaDoor
set_option maxRecDepth 100000
open Go Go.RowKit

/-- What a search stands on. -/
structure Env where
  bm : Nat
  gm : Nat
  cm : Nat
  R : Nat
  C : Nat
  ms : List UInt8
  bs : Nat
  bb : Nat
  m : Nat
  fr : Nat
  to_ : Nat
  ban : List Int
def Env.N (E : Env) : Nat := E.ms.length

structure ObjAt (E : Env) (w : World) : Prop where
  c0 : w.cell? ⟨E.bs, 0, none⟩ = some (.pointer (some ⟨E.bm, 0, none⟩))
  c1 : w.cell? ⟨E.bs, 1, none⟩ = some (.int .i64 (E.fr : Int))
  c2 : w.cell? ⟨E.bs, 2, none⟩ = some (.int .i64 (E.to_ : Int))
  c3 : w.cell? ⟨E.bs, 3, none⟩ = some (.slice (some ⟨E.bb, 0, none⟩) E.N E.N)
  c4 : w.cell? ⟨E.bs, 4, none⟩ = some (.map (some E.m))
  bans : w.heap[E.bb]? = some (.cells (bz (banL E.N E.ban)) 4 (0, 0))
theorem ObjAt.kept {E : Env} {X : Nat → Prop} {w w' : World} (h : ObjAt E w) (hk : Kept X w w') (h1 : ¬ X E.bs) (h2 : ¬ X E.bb) : ObjAt E w' :=
  ⟨hk.cell h.c0 h1, hk.cell h.c1 h1, hk.cell h.c2 h1, hk.cell h.c3 h1, hk.cell h.c4 h1, (hk.block _ (blk_lt h.bans) h2).trans h.bans⟩
theorem ObjAt.drewN {E : Env} {w : World} (h : ObjAt E w) (n : Nat) : ObjAt E (w.drewN n) := h.kept ((Kept.refl (fun _ => False) w).drewN n) id id

/-- May a way have the cell? -/
def mayF (E : Env) (c : Nat) : Bool := !(decide (((c : Nat) : Int) ∈ E.ban)) || decide (c = E.fr)

theorem may_any {E : Env} {w : World} (h : ObjAt E w) (_ : E.N ≤ 100000) {c : Nat} (hc : c < E.N) :
    Calls Tryd.prog 47 #[.pointer (some ⟨E.bs, 0, none⟩), .int .i64 (c : Int)] w fun e w' => e = .returned (.bool (mayF E c)) ∧ w = w' := by
  have f0 := h.c1
  have f1 := h.c3
  have f2 : w.cell? ⟨E.bb, c, none⟩ = some (.bool (decide (((c : Nat) : Int) ∈ E.ban))) := by
    rw [blk_cell h.bans, bz_get (by rw [banL_len]; exact hc), banL_at hc]
  have c0 : (0 : Int) ≤ (c : Int) := by omega
  have c1 : (c : Int) < (E.N : Int) := by omega
  have hm : mayF E c = (!(decide (((c : Nat) : Int) ∈ E.ban)) || decide (c = E.fr)) := rfl
  rw [hm]
  clear h hm
  generalize E.N = N at *
  generalize E.bb = bb at *
  generalize E.bs = bs at *
  generalize E.fr = fr at *
  generalize decide (((c : Nat) : Int) ∈ E.ban) = v at *
  cases v with
  | false =>
    go_enter Tryd.func47, Tryd.ntmps47
    go_wp2
    go_ret
    exact ⟨rfl, rfl⟩
  | true =>
    by_cases e : c = fr
    · have e1 : decide (c = fr) = true := decide_eq_true e
      have e2 : ((c : Int) == (fr : Int)) = true := by simp [e]
      clear e
      go_enter Tryd.func47, Tryd.ntmps47
      go_wp2
      go_ret
      exact ⟨by simp [e1], rfl⟩
    · have e1 : decide (c = fr) = false := decide_eq_false e
      have e2 : ((c : Int) == (fr : Int)) = false := by simp; omega
      clear e
      go_enter Tryd.func47, Tryd.ntmps47
      go_wp2
      go_ret
      exact ⟨by simp [e1], rfl⟩

theorem met_any {E : Env} {w : World} {M : List (Nat × Nat)} (h4 : w.cell? ⟨E.bs, 4, none⟩ = some (.map (some E.m))) (hM : MapM w E.m M) {c : Nat} (hc : c ≤ 100000) :
    Calls Tryd.prog 49 #[.pointer (some ⟨E.bs, 0, none⟩), .int .i64 (c : Int)] w fun e w' => e = .returned (.bool (metB M c)) ∧ w = w' := by
  obtain ⟨D, ho, hs, hh⟩ := hM
  have hkey := dkey hc
  have HH := Lib.hid (hh c).1
  clear hs hh
  generalize E.bs = bs at *
  generalize E.m = m at *
  go_enter Tryd.func49, Tryd.ntmps49
  go_wp2_with (at_lookup; refine wpList_lookup_own_ok_int _ rfl _ _ 67 rfl 3 3 .i64 dkeyed Tryd.underlying67 Tryd.underlying3 (dzero _) m M.length D rfl ho _ _ rfl hkey ?_; intro z hat hwz; rw [HH.out]; clear hat hwz)
  go_ret
  exact ⟨rfl, rfl⟩

theorem found_any {E : Env} {w : World} {M : List (Nat × Nat)} (h : ObjAt E w) (hM : MapM w E.m M) (hc : E.fr ≤ 100000) :
    Calls Tryd.prog 30 #[.pointer (some ⟨E.bs, 0, none⟩)] w fun e w' => e = .returned (.bool (metB M E.fr)) ∧ w = w' := by
  have HM := Lib.hid (met_any (E := E) h.c4 hM hc)
  have f1 := h.c1
  clear h hM
  generalize E.bs = bs at *
  generalize E.fr = fr at *
  generalize metB M fr = v at *
  go_enter Tryd.func30, Tryd.ntmps30
  go_wp2_with (with_reducible refine HM.out.mono ?_; rintro e w' ⟨rfl, rfl⟩)
  go_ret
  exact ⟨rfl, rfl⟩

/-- How much is left at least. -/
def lftF (E : Env) (c : Nat) : Nat := (farZ E.C E.N (E.fr : Int) (c : Int)).toNat
theorem lft_int {E : Env} {c : Nat} (h1 : E.fr < E.N) (h2 : c < E.N) : farZ E.C E.N (E.fr : Int) (c : Int) = ((lftF E c : Nat) : Int) := by
  unfold lftF farZ
  rw [if_pos (by omega)]
  unfold apartZ
  omega

theorem left1_any {E : Env} {w : World} {pl : Nat} (h : ObjAt E w) (hE : EM E.bm E.gm E.cm E.R E.C E.ms w) (hp : w.cell? ⟨pl, 0, none⟩ = some (.pointer (some ⟨E.bs, 0, none⟩))) (h1 : E.fr < E.N) {c : Nat} (h2 : c < E.N) :
    Calls Tryd.prog 62 #[.int .i64 (c : Int), .pointer (some ⟨pl, 0, none⟩)] w fun e w' => e = .returned (.int .i64 ((lftF E c : Nat) : Int)) ∧ ∃ n, w' = w.drewN n := by
  have hN0 : 0 < E.ms.length := by have : E.N = E.ms.length := rfl; omega
  have HF : Hid (∀ n, Calls Tryd.prog 20 #[.pointer (some ⟨E.bm, 0, none⟩), .int .i64 (E.fr : Int), .int .i64 (c : Int)] (w.drewN n) fun e w' => e = .returned (.int .i64 ((lftF E c : Nat) : Int)) ∧ ∃ k, w' = (w.drewN n).drewN k) := fun n => by
    refine (far_any _ _ (hE.grown (w' := w.drewN n) ⟨rfl, rfl, rfl, Nat.le_refl _, fun _ _ _ => rfl⟩) hN0).mono ?_
    rintro e w' ⟨rfl, k, rfl⟩
    exact ⟨by rw [← lft_int h1 h2]; rfl, k, rfl⟩
  have f0 := h.c0
  have f1 := h.c1
  clear h hE
  generalize E.bs = bs at *
  generalize E.bm = bm at *
  generalize E.fr = fr at *
  generalize lftF E c = v at *
  go_enter Tryd.func62, Tryd.ntmps62
  go_wp2
  go_quiet ((go_at_call 20; exact Calls.quiet_of (HF.out _)))
  clear HF
  go_wp2
  go_ret
  exact ⟨rfl, nq, rfl⟩

/-- What the pusher stands on. -/
structure PuI (E : Env) (p6 pl b : Nat) (r : Option Nat) (s : List Pq.It) (w : World) : Prop where
  obj : ObjAt E w
  em : EM E.bm E.gm E.cm E.R E.C E.ms w
  c6 : w.cell? ⟨p6, 0, none⟩ = some (.func (.func 62) #[] #[.pointer (some ⟨pl, 0, none⟩)])
  cl : w.cell? ⟨pl, 0, none⟩ = some (.pointer (some ⟨E.bs, 0, none⟩))
  pile : PileS w b 0 r s
theorem PuI.drewN {E : Env} {p6 pl b : Nat} {r : Option Nat} {s : List Pq.It} {w : World} (h : PuI E p6 pl b r s w) (n : Nat) : PuI E p6 pl b r s (w.drewN n) :=
  ⟨h.obj.drewN n, h.em.grown (w' := w.drewN n) ⟨rfl, rfl, rfl, Nat.le_refl _, fun _ _ _ => rfl⟩, h.c6, h.cl, h.pile.drewN n⟩

theorem PuI.drew {E : Env} {p6 pl b : Nat} {r : Option Nat} {s : List Pq.It} {w : World} (h : PuI E p6 pl b r s w) : PuI E p6 pl b r s w.drew :=
  ⟨h.obj.kept ((Kept.refl (fun _ => False) w).drew) id id, h.em.grown (w' := w.drew) ⟨rfl, rfl, rfl, Nat.le_refl _, fun _ _ _ => rfl⟩, h.c6, h.cl, h.pile.drew⟩

def PushQ (w : World) (b : Nat) (r : Option Nat) (s : List Pq.It) (x : Pq.It) (e : Ending) (w' : World) : Prop :=
  e = .returned (.tuple #[]) ∧ ∃ r', PileS w' b 0 r' (Pq.ins x s) ∧ Kp b 0 r w w' ∧ Newer w r r'

set_option maxHeartbeats 2000000 in
theorem pusher_any {E : Env} {w : World} {p6 pl b : Nat} {r : Option Nat} {s : List Pq.It} (h : PuI E p6 pl b r s w) (h1 : E.fr < E.N) (hN : E.N ≤ 1024) {c d : Nat} (h2 : c < E.N) (hd : d ≤ 5000) (hs : s.length ≤ 10000) (h6 : ¬ Of b r p6) :
    Calls Tryd.prog 45 #[.int .i64 (c : Int), .int .i64 (d : Int), .pointer (some ⟨b, 0, none⟩), .pointer (some ⟨p6, 0, none⟩)] w (PushQ w b r s (Rq.item (lftF E) d c)) := by
  have hC := h.em.hC
  have hlf : lftF E c ≤ 3000 := by
    have h3 := lft_int h1 h2
    have hN' : E.N = E.ms.length := rfl
    have e1 : E.fr / E.C ≤ E.fr := Nat.div_le_self _ _
    have e2 : c / E.C ≤ c := Nat.div_le_self _ _
    have e3 : E.fr % E.C ≤ E.fr := Nat.mod_le _ _
    have e4 : c % E.C ≤ c := Nat.mod_le _ _
    have k1 : (0 : Int) ≤ ((E.fr / E.C : Nat) : Int) := Int.natCast_nonneg _
    have k2 : (0 : Int) ≤ ((c / E.C : Nat) : Int) := Int.natCast_nonneg _
    have k3 : (0 : Int) ≤ ((E.fr % E.C : Nat) : Int) := Int.natCast_nonneg _
    have k4 : (0 : Int) ≤ ((c % E.C : Nat) : Int) := Int.natCast_nonneg _
    unfold farZ at h3
    rw [if_pos (by omega)] at h3
    unfold apartZ at h3
    simp only [Int.toNat_natCast] at h3
    omega
  have HL : Hid (∀ W, PuI E p6 pl b r s W → Kept (fun _ => False) w W → Calls Tryd.prog 62 #[.int .i64 (c : Int), .pointer (some ⟨pl, 0, none⟩)] W fun e w' => e = .returned (.int .i64 ((lftF E c : Nat) : Int)) ∧ PuI E p6 pl b r s w' ∧ Kept (fun _ => False) w w') := fun W hW hk => by
    refine (left1_any hW.obj hW.em hW.cl h1 h2).mono ?_
    rintro e w' ⟨rfl, n, rfl⟩
    exact ⟨rfl, hW.drewN n, hk.drewN n⟩
  have HP : Hid (∀ W, PuI E p6 pl b r s W → Kept (fun _ => False) w W → Calls Tryd.prog 46 #[.pointer (some ⟨b, 0, none⟩), .agg #[.int .i64 ((d : Int) + ((lftF E c : Nat) : Int)), .int .i64 ((lftF E c : Nat) : Int), .int .i64 (c : Int)]] W fun e w' => PushQ w b r s (Rq.item (lftF E) d c) e w' ∧ w'.cell? ⟨p6, 0, none⟩ = some (.func (.func 62) #[] #[.pointer (some ⟨pl, 0, none⟩)])) := fun W hW hk => by
    have ec : (d : Int) + ((lftF E c : Nat) : Int) = ((d + lftF E c : Nat) : Int) := by omega
    rw [ec]
    refine (push_s hW.pile (Rq.item (lftF E) d c) hs).mono ?_
    rintro e w' ⟨he, r', h3, h4, h5⟩
    have hlt : b < w.heap.size := h.pile.lt b (.inl rfl)
    refine ⟨⟨he, r', h3, (Kp.of_kept hk hlt id (fun _ _ h => h.elim)).trans h4 (fun _ _ h => h), fun k hk' => (h5 k hk').imp id (fun h => Nat.le_trans hk.size h)⟩, h4.kept.cell hW.c6 h6⟩
  have hP0 := h.drew
  have hK0 : Kept (fun _ => False) w w.drew := (Kept.refl (fun _ => False) w).drew
  have hw : IntKind.i64.wrap ((d : Int) + ((lftF E c : Nat) : Int)) = (d : Int) + ((lftF E c : Nat) : Int) := IntWalk.i64_in _ (by omega)
  have f6 := hP0.c6
  clear h hlf
  generalize hv : lftF E c = v at *
  have HV := Lib.hid hv
  clear hv
  go_enter Tryd.func45, Tryd.ntmps45
  go_wp2
  go_region_held3 (fun W => W.cell? ⟨p6, 0, none⟩ = some (.func (.func 62) #[] #[.pointer (some ⟨pl, 0, none⟩)])) (first | exact f6 | exact hP1.c6 | exact hP2.c6 | exact hq2) (first
    | (go_at_call 62; (with_reducible refine (HL.out _ hP1 hK1).mono ?_); rintro e w2 ⟨rfl, hP2, hK2⟩)
    | (go_at_call 62; (with_reducible refine (HL.out _ hP0 hK0).mono ?_); rintro e w1 ⟨rfl, hP1, hK1⟩)
    | (go_at_call 46; (with_reducible refine (HP.out _ hP2 hK2).mono ?_); rintro e w3 ⟨hq, hq2⟩; obtain ⟨rfl, hq3⟩ := hq; have HQ := Lib.hid hq3; clear hq3))
  clear hP0 hP1 hP2 hK0 hK1 hK2 hq2
  go_end0
  exact ⟨rfl, HQ.out⟩
end Go.Proofs.YtkfijjjnidiejaaDoor
