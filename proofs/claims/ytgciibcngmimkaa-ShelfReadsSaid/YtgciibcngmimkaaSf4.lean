/-
  shelf.Write.
-/
import Derived.Test.YtgciibcngmimkaaSf2
import Derived.Deep.RegionHeld3
import Derived.Carry
import Derived.Deep.CutBlock
import Derived.Deep.DeepCutAuto
namespace Go.Proofs.Ytgciibcngmimkaa
set_option maxRecDepth 100000
set_option linter.unusedSimpArgs false
open Go Go.RowKit Sf

/-- What a write leaves. -/
def WrQ (w : World) (b : Nat) (mo : Option Nat) (N : Nat) (M : List Ent) (r : Rec) (e : Ending) (w' : World) : Prop :=
  e = .returned (.int .i64 (wrE M r : Nat)) ∧ ∃ mo', ShAt w' b mo' (N + 1) (wrM M r) ∧ Kept (OfS b mo) w w' ∧ ∀ m, mo' = some m → mo = some m ∨ w.heap.size ≤ m
theorem ShAt.mono {w : World} {b N N' : Nat} {mo : Option Nat} {M : List Ent} (h : ShAt w b mo N M) (hN : N ≤ N') : ShAt w b mo N' M :=
  ⟨h.blk, h.none_, fun m e => by obtain ⟨D, ho, r⟩ := h.some_ m e; exact ⟨D, ho.mono hN, r⟩, h.ok⟩

theorem MapM.mono' {w : World} {m N N' : Nat} {M : List Ent} (h : MapM w m N M) (hN : N ≤ N') : MapM w m N' M := by
  obtain ⟨D, ho, r⟩ := h
  exact ⟨D, ho.mono hN, r⟩
theorem write_none (w : World) (k n : Int) (A : Option Addr) (len cap : Nat) :
    Calls Try.prog 11 #[.pointer none, recA k n A len cap] w fun e w' => e = .returned (.int .i64 1) ∧ Below w.heap.size w w' := by
  go_enter Try.func11, Try.ntmps11
  go_wp2
  go_ret
  exact ⟨rfl, (Below.refl _ _).alloc (Nat.le_refl _) _⟩

section
variable {w : World} {b N : Nat} {mo : Option Nat} {M : List Ent} {r : Rec} {A : Option Addr} {cap : Nat}
theorem write_bad (h : ShAt w b mo N M) (hm : may r = false) :
    Calls Try.prog 11 #[.pointer (some ⟨b, 0, none⟩), recA r.k r.n A r.d.length cap] w (WrQ w b mo N M r) := by
  have HQ : Hid (∀ w', Below w.heap.size w w' → WrQ w b mo N M r (.returned (.int .i64 130)) w') := by
    intro w' hb
    have e1 : wrE M r = 130 := by unfold wrE; rw [if_pos hm]
    have e2 : wrM M r = M := by unfold wrM; rw [e1]; rfl
    exact ⟨by rw [e1]; rfl, mo, by rw [e2]; exact (h.below hb).mono (by omega), Kept.of_below hb (Nat.le_refl _), fun m e => .inl e⟩
  have HC : Hid (∀ W, Calls Try.prog 10 #[recA r.k r.n A r.d.length cap] W fun e w' => e = .returned (.int .i64 130) ∧ Below W.heap.size W w') := by
    intro W
    refine (check_any W r.k r.n A r.d.length cap).mono ?_
    rintro e w' ⟨rfl, rfl⟩
    exact ⟨by rw [ckV, ckB_may, hm]; rfl, (Below.refl _ _).alloc (Nat.le_refl _) _⟩
  clear h hm
  generalize WrQ w b mo N M r = P at *
  generalize r.d.length = L at *
  generalize r.k = k at *
  generalize r.n = n at *
  go_enter Try.func11, Try.ntmps11
  go_wp2_with fail
  refine (HC.out _).mono ?_
  rintro e w1 ⟨rfl, hb⟩
  have HB : Hid (Below w.heap.size w w1) := ((Below.refl _ w).alloc (Nat.le_refl _) _).trans (hb.mono (by simp))
  clear hb
  go_wp2
  exact HQ.out _ HB.out

theorem place_r {r : Rec} (hm : may r = true) : ∃ kn nn : Nat, r.k = (kn : Int) ∧ r.n = (nn : Int) ∧ kn ≤ 255 ∧ nn ≤ 1024 ∧ pl r = kn * 65536 + nn := by
  rw [may_iff] at hm
  exact ⟨r.k.toNat, r.n.toNat, by omega, by omega, by omega, by omega, rfl⟩
theorem check_good (W : World) (hm : may r = true) : Calls Try.prog 10 #[recA r.k r.n A r.d.length cap] W fun e w' => e = .returned (.int .i64 0) ∧ w' = W.alloc (recO r.k r.n A r.d.length cap) := by
  refine (check_any W r.k r.n A r.d.length cap).mono ?_
  rintro e w' ⟨rfl, rfl⟩
  exact ⟨by rw [ckV, ckB_may, hm]; rfl, rfl⟩
theorem write_del (h : ShAt w b mo N M) (hm : may r = true) (hd : r.d = []) :
    Calls Try.prog 11 #[.pointer (some ⟨b, 0, none⟩), recA r.k r.n A r.d.length cap] w (WrQ w b mo N M r) := by
  obtain ⟨kn, nn, hk, hn, hk1, hn1, hp⟩ := place_r hm
  obtain ⟨k, n, d⟩ := r
  simp only at hk hn hd
  subst hk hn hd
  have HC := Lib.hid (fun W => check_good (A := A) (cap := cap) W hm)
  have e1 : wrE M ⟨kn, nn, []⟩ = 0 := by unfold wrE; rw [if_neg (by simp [hm]), if_pos rfl]
  have e2 : wrM M ⟨kn, nn, []⟩ = cutM M (pl ⟨kn, nn, []⟩) := by unfold wrM; rw [e1, if_neg (by omega), if_pos rfl]
  have hok : Ok (wrM M ⟨kn, nn, []⟩) := h.ok.wr (by intro c hc; cases hc)
  obtain ⟨w2, hw2⟩ : ∃ w2, w2 = (w.alloc (recO kn nn A 0 cap)).alloc (recO kn nn A 0 cap) := ⟨_, rfl⟩
  have hb2 : Below w.heap.size w w2 := by rw [hw2]; exact ((Below.refl _ w).alloc (Nat.le_refl _) _).alloc (by simp) _
  have h2 := h.below hb2
  have hP := Lib.hid (fun W => place_any W (k := kn) (n := nn) (by omega) (by omega))
  simp only [List.length_nil] at *
  rw [← hp] at hP
  have HOK := Lib.hid hok
  have HB2 := Lib.hid hb2
  have HE1 := Lib.hid e1
  have HE2 := Lib.hid e2
  have hpl : pl ⟨kn, nn, []⟩ < 1000000000000 := by omega
  have HQ : Hid (∀ mo' w', ShAt w' b mo' (N + 1) (cutM M (pl ⟨kn, nn, []⟩)) → Kept (OfS b mo) w2 w' → (∀ m, mo' = some m → mo = some m) → WrQ w b mo N M ⟨kn, nn, []⟩ (.returned (.int .i64 0)) w') := by
    intro mo' w' h1 h3 h4
    refine ⟨by rw [HE1.out]; rfl, mo', by rw [HE2.out]; exact h1, (Kept.of_below (X := OfS b mo) HB2.out (Nat.le_refl _)).trans h3 (fun _ _ => id), fun m e => .inl (h4 m e)⟩
  have c0 := blk_cell h2.blk 0
  simp at c0
  generalize hP0 : WrQ w b mo N M ⟨kn, nn, []⟩ = P at *
  generalize pl ⟨kn, nn, []⟩ = p at *
  cases mo with
  | none =>
    obtain rfl := h.none_ rfl
    have HF := Lib.hid (HQ.out none w2 (h2.mono (by omega)) (Kept.refl _ _) (fun m e => e))
    have hdel := fun ty => Maps.drop_nil (w := w2) keyE_keyed Try.underlying25 (keyE_of hpl) ty
    rw [hw2] at c0 hdel HF
    clear h h2 hok hb2 e1 e2 hw2 hm hp HOK HB2 HE1 HE2 hP0 HQ
    go_enter Try.func11, Try.ntmps11
    go_wp2_with fail
    (with_reducible refine (HC.out _).mono ?_)
    rintro e w1 ⟨rfl, rfl⟩
    go_wp2_with fail
    (with_reducible refine (hP.out _).mono ?_)
    rintro e w1 ⟨rfl, rfl⟩
    go_wp2
    exact HF.out
  | some m =>
    obtain ⟨w3, hdel, hm3, hk3⟩ := (h2.some_ m rfl).del hpl 0
    have hdel' : ∀ ty, (Builtin.delete_ #[25, 3] ty #[.map (some m), .int .i64 (p : Int)]).run Try.prog w2 = .ok (.tuple #[]) w3 := fun ty => hdel
    have HF : Hid (P (.returned (.int .i64 0)) w3) := by
      refine HQ.out (some m) w3 ⟨?_, fun e => (by cases e), fun m' e => ?_, ?_⟩ (hk3.mono fun k _ e => .inr (by rw [e])) (fun m e => e)
      · refine (hk3.block b h2.lt ?_).trans h2.blk
        rintro rfl
        obtain ⟨es, cl, e⟩ := (h2.some_ b rfl).isMap
        rw [h2.blk] at e; cases e
      · cases e; exact hm3.mono' (by omega)
      · have := HOK.out; rw [HE2.out] at this; exact this
    rw [hw2] at c0 hdel'
    clear h h2 hok hb2 e1 e2 hw2 hm hp HOK HB2 HE1 HE2 hP0 HQ hdel hm3 hk3
    go_enter Try.func11, Try.ntmps11
    go_wp2_with fail
    (with_reducible refine (HC.out _).mono ?_)
    rintro e w1 ⟨rfl, rfl⟩
    go_wp2_with fail
    (with_reducible refine (hP.out _).mono ?_)
    rintro e w1 ⟨rfl, rfl⟩
    go_wp2
    exact HF.out

theorem BytesAt.apart {l : List Nat} (h : BytesAt w A l) {u : Value} {t : TypeId} {f : Nat × Nat} (hk : w.heap[b]? = some (.cells #[u] t f)) (hu : ∀ n, u ≠ byV n) (hl : l ≠ []) : ∀ a, A = some a → a.block ≠ b := by
  intro a ha e
  obtain ⟨a', ha', hc⟩ := h 0 (by cases l with | nil => exact absurd rfl hl | cons => simp)
  rw [ha] at ha'
  cases ha'
  have hb : (a.add 0).block = b := by rw [add_block]; exact e
  unfold World.cell? at hc
  rw [hb, hk] at hc
  simp only at hc
  generalize hj : (a.add 0) = j at hc
  obtain ⟨jb, jo, jp⟩ := j
  cases jp with
  | none =>
    simp only [World.cell?] at hc
    rcases jo with _ | jo
    · simp at hc; exact hu _ hc
    · simp at hc
  | some x => simp at hc
/-- A look-up of a map that may be none. -/
theorem ShAt.look (h : ShAt w b mo N M) {p : Nat} (hp : p < 1000000000000) :
    ∃ v, (∀ W : World, (∀ m, mo = some m → W.heap[m]? = w.heap[m]?) → (Instr.lookup 25 (.map mo) (.int .i64 (p : Int)) true).run Try.prog W = .ok (.tuple #[v, .bool (hasM M p)]) W ∧ (Instr.lookup 25 (.map mo) (.int .i64 (p : Int)) false).run Try.prog W = .ok v W) ∧ R8 w v (getM M p) := by
  cases mo with
  | none =>
    obtain rfl := h.none_ rfl
    exact ⟨.slice none 0 0, fun W _ => ⟨Maps.look_nil (w := W) true keyE_keyed Try.underlying25 (zero_bytes W) (keyE_of hp), Maps.look_nil (w := W) false keyE_keyed Try.underlying25 (zero_bytes W) (keyE_of hp)⟩, R8.nil w⟩
  | some m =>
    obtain ⟨v, h1, h2⟩ := (h.some_ m rfl).look h.ok.srt hp
    exact ⟨v, fun W hW => h1 W (hW m rfl), h2⟩
set_option maxHeartbeats 1000000 in
theorem write_full (h : ShAt w b mo N M) (hm : may r = true) (hd : r.d ≠ []) (hh : hasM M (pl r) = false) (h4 : 4096 ≤ M.length) :
    Calls Try.prog 11 #[.pointer (some ⟨b, 0, none⟩), recA r.k r.n A r.d.length cap] w (WrQ w b mo N M r) := by
  obtain ⟨kn, nn, hk, hn, hk1, hn1, hp⟩ := place_r hm
  obtain ⟨k, n, d⟩ := r
  simp only at hk hn hd
  subst hk hn
  have HC := Lib.hid (fun W => check_good (A := A) (cap := cap) W hm)
  have hL : 0 < d.length := by cases d with | nil => exact absurd rfl hd | cons => simp
  have hL1 : (((d.length : Nat) : Int) == 0) = false := by simp; omega
  have hL2 : (d.length == 0) = false := by simp; omega
  have e1 : wrE M ⟨kn, nn, d⟩ = 131 := by unfold wrE; rw [if_neg (by simp [hm]), if_neg hd, if_neg (by simp [hh]), if_pos h4]
  have e2 : wrM M ⟨kn, nn, d⟩ = M := by unfold wrM; rw [e1, if_pos (by omega)]
  obtain ⟨w2, hw2⟩ : ∃ w2, w2 = (w.alloc (recO kn nn A d.length cap)).alloc (recO kn nn A d.length cap) := ⟨_, rfl⟩
  have hb2 : Below w.heap.size w w2 := by rw [hw2]; exact ((Below.refl _ w).alloc (Nat.le_refl _) _).alloc (by simp) _
  have h2 := h.below hb2
  have hP := Lib.hid (fun W => place_any W (k := kn) (n := nn) (by omega) (by omega))
  simp only at *
  rw [← hp] at hP
  have hpl : pl ⟨kn, nn, d⟩ < 1000000000000 := by omega
  have HF : Hid (WrQ w b mo N M ⟨kn, nn, d⟩ (.returned (.int .i64 131)) w2) :=
    ⟨by rw [e1]; rfl, mo, by rw [e2]; exact h2.mono (by omega), Kept.of_below hb2 (Nat.le_refl _), fun m e => .inl e⟩
  obtain ⟨v, hlk, _⟩ := h2.look hpl
  have hl := (hlk w2 (fun _ _ => rfl)).1
  clear hlk
  rw [hh] at hl
  have HLen := Lib.hid (len_any h2)
  have c0 := blk_cell h2.blk 0
  simp at c0
  have hge : decide ((M.length : Int) < 4096) = false := by simp; omega
  have hge' : decide (M.length < 4096) = false := by simp; omega
  have hge2 : decide ((4096 : Int) ≤ (M.length : Int)) = true := by simp; omega
  have hge2' : decide (4096 ≤ M.length) = true := by simp; omega
  generalize hP0 : WrQ w b mo N M ⟨kn, nn, d⟩ = P at *
  generalize pl ⟨kn, nn, d⟩ = p at *
  generalize M.length = ML at *
  rw [hw2] at c0 hl HLen HF
  clear h h2 hb2 e1 e2 hw2 hm hp hP0 hh h4 hL hd
  generalize d.length = L at *
  go_enter Try.func11, Try.ntmps11
  go_wp2_with fail
  (with_reducible refine (HC.out _).mono ?_)
  rintro e w1 ⟨rfl, rfl⟩
  go_wp2_with fail
  (with_reducible refine (hP.out _).mono ?_)
  rintro e w1 ⟨rfl, rfl⟩
  go_wp2_with fail
  (with_reducible refine HLen.out.mono ?_)
  rintro e w1 ⟨rfl, rfl⟩
  go_wp2
  exact HF.out
theorem eql_none (w : World) : (binOp .eql 25 (.map none) (.map none)).run Try.prog w = .ok (.bool true) w := by kernel_rfl
theorem eql_some (w : World) (m : Nat) : (binOp .eql 25 (.map (some m)) (.map none)).run Try.prog w = .ok (.bool false) w := by kernel_rfl
/-- What the last statement of a write finds, and leaves. -/
theorem put_step (h : ShAt w b mo N M) (hN : N < 10000000) {m : Nat} (hmo : mo = some m) {p : Nat} (hp : p < 1000000000000) {d : List Nat} {v : Value} (hv : R8 w v d) (hok : Ok (putM M p d)) :
    ∃ w', (Instr.mapUpdate 25 (.map (some m)) (.int .i64 (p : Int)) v).run Try.prog w = .ok () w' ∧ ShAt w' b mo (N + 1) (putM M p d) ∧ Kept (fun k => k = m) w w' := by
  subst hmo
  obtain ⟨w3, hr, hm3, hk3⟩ := (h.some_ m rfl).put (by omega) hp hv
  refine ⟨w3, hr, ⟨?_, fun e => (by cases e), fun m' e => ?_, hok⟩, hk3⟩
  · refine (hk3.block b h.lt ?_).trans h.blk
    rintro rfl
    obtain ⟨es, cl, e⟩ := (h.some_ b rfl).isMap
    rw [h.blk] at e; cases e
  · cases e; exact hm3
set_option maxHeartbeats 4000000 in
theorem write_put (h : ShAt w b mo N M) (hN : N < 10000000) (hm : may r = true) (hd : r.d ≠ []) (hA : BytesAt w A r.d) (hcap : A = none → r.d = [] ∧ cap = 0) (hby : ∀ c ∈ r.d, c < 256) (hh : hasM M (pl r) = true ∨ M.length < 4096) :
    Calls Try.prog 11 #[.pointer (some ⟨b, 0, none⟩), recA r.k r.n A r.d.length cap] w (WrQ w b mo N M r) := by
  have hrd : r.d.length ≤ 1024 := ((may_iff r).1 hm).2.2.2.2
  obtain ⟨kn, nn, hk, hn, hk1, hn1, hp⟩ := place_r hm
  obtain ⟨k, n, d⟩ := r
  simp only at hk hn hd
  subst hk hn
  simp only at *
  have HC := Lib.hid (fun W => check_good (A := A) (cap := cap) W hm)
  have hL : 0 < d.length := by cases d with | nil => exact absurd rfl hd | cons => simp
  have hL1 : (((d.length : Nat) : Int) == 0) = false := by simp; omega
  have hL2 : (d.length == 0) = false := by simp; omega
  have e1 : wrE M ⟨kn, nn, d⟩ = 0 := by
    unfold wrE; rw [if_neg (by simp [hm]), if_neg hd]
    rcases hh with hh | hh
    · rw [if_pos hh]
    · split
      · rfl
      · rw [if_neg (by omega)]
  have e2 : wrM M ⟨kn, nn, d⟩ = putM M (pl ⟨kn, nn, d⟩) d := by unfold wrM; rw [e1, if_neg (by omega), if_neg hd]
  have hok : Ok (putM M (pl ⟨kn, nn, d⟩) d) := by rw [← e2]; exact h.ok.wr hby
  obtain ⟨w2, hw2⟩ : ∃ w2, w2 = (w.alloc (recO kn nn A d.length cap)).alloc (recO kn nn A d.length cap) := ⟨_, rfl⟩
  have hb2 : Below w.heap.size w w2 := by rw [hw2]; exact ((Below.refl _ w).alloc (Nat.le_refl _) _).alloc (by simp) _
  have h2 := h.below hb2
  have hA2 := hA.below hb2
  have hbx : w2.heap[w.heap.size]? = some (recO kn nn A d.length cap) := by
    rw [hw2, Below.heap_alloc _ _ _ (by simp)]; exact heap_alloc_new w _
  have hP := Lib.hid (fun W => place_any W (k := kn) (n := nn) (by omega) (by omega))
  simp only at *
  rw [← hp] at hP
  have hpl : pl ⟨kn, nn, d⟩ < 1000000000000 := by omega
  have HQ : Hid (∀ mo' w', ShAt w' b mo' (N + 1) (putM M (pl ⟨kn, nn, d⟩) d) → Kept (OfS b mo) w w' → (∀ m, mo' = some m → mo = some m ∨ w.heap.size ≤ m) → WrQ w b mo N M ⟨kn, nn, d⟩ (.returned (.int .i64 0)) w') := by
    intro mo' w' h1 h3 h4
    exact ⟨by rw [e1]; rfl, mo', by rw [e2]; exact h1, h3, h4⟩
  generalize hP0 : WrQ w b mo N M ⟨kn, nn, d⟩ = P at *
  generalize pl ⟨kn, nn, d⟩ = p at *
  obtain ⟨v, hlk, _⟩ := h2.look hpl
  have hl := (hlk w2 (fun _ _ => rfl)).1
  clear hlk
  have HLen := Lib.hid (len_any h2)
  have c0 := blk_cell h2.blk 0
  simp at c0
  have f0 := blk_free h2.blk 0
  -- what lies where the bytes go in
  have HT : Hid (∀ (w4 : World) (m : Nat), ShAt w4 b (some m) N M → Kept (OfS b mo) w w4 → (mo = some m ∨ w.heap.size ≤ m) → BytesAt w4 A d → w4.heap[w.heap.size]? = some (recO kn nn A d.length cap) →
      (Calls Try.prog 28 #[.slice A d.length cap] w4.drew fun e V => ∃ v V', e = .returned v ∧ (V.cell? ⟨b, 0, none⟩ = some (.map (some m)) ∧ V.cell? ⟨w.heap.size, 2, none⟩ = some (.slice A d.length cap)) ∧ (Instr.mapUpdate 25 (.map (some m)) (.int .i64 (p : Int)) v).run Try.prog V = .ok () V' ∧ (V'.cell? ⟨b, 0, none⟩ = some (.map (some m)) ∧ V'.cell? ⟨w.heap.size, 2, none⟩ = some (.slice A d.length cap)) ∧ P (.returned (.int .i64 0)) V') ∧
      w4.cell? ⟨b, 0, none⟩ = some (.map (some m)) ∧ w4.cell? ⟨w.heap.size, 2, none⟩ = some (.slice A d.length cap)) := by
    intro w4 m h4 hk4 hm4 hA4 hbx4
    have cells : ∀ V mo' N' M', ShAt V b mo' N' M' → mo' = some m → V.heap[w.heap.size]? = some (recO kn nn A d.length cap) → V.cell? ⟨b, 0, none⟩ = some (.map (some m)) ∧ V.cell? ⟨w.heap.size, 2, none⟩ = some (.slice A d.length cap) := by
      intro V mo' N' M' hV e hb'
      subst e
      exact ⟨by rw [blk_cell hV.blk]; rfl, by rw [blk_cell hb']; rfl⟩
    have hdr : Below w4.heap.size w4 w4.drew := (Below.refl _ _).drew
    refine ⟨(clone_any (hA4.below hdr) hcap (by omega)).mono ?_, cells w4 _ _ _ h4 rfl hbx4⟩
    rintro e V ⟨v, rfl, hrow, hb⟩
    have hb4 : Below w4.heap.size w4 V := hdr.trans hb
    have hV := h4.below hb4
    have hbV : V.heap[w.heap.size]? = some (recO kn nn A d.length cap) := (hb4.block _ (blk_lt hbx4)).trans hbx4
    obtain ⟨V', hr, hV', hkV⟩ := put_step hV hN rfl hpl (R8.of hrow) hok
    have hbV' : V'.heap[w.heap.size]? = some (recO kn nn A d.length cap) := (hkV.block _ (blk_lt hbV) (fun e => by
      obtain ⟨es, cl, e2⟩ := (hV.some_ m rfl).isMap
      rw [← e, hbV] at e2; cases e2)).trans hbV
    refine ⟨v, V', rfl, cells V _ _ _ hV rfl hbV, hr, cells V' _ _ _ hV' rfl hbV', HQ.out (some m) V' hV' ?_ (fun m' e => by cases e; exact hm4)⟩
    have hk5 : Kept (OfS b mo) w V := hk4.trans (Kept.of_below (X := OfS b mo) hb4 (Nat.le_refl _)) (fun _ _ => id)
    rcases hm4 with e | e
    · exact hk5.trans hkV (fun i _ hi => .inr (by rw [hi]; exact e))
    · refine ⟨hkV.os.trans hk5.os, hkV.tape.trans hk5.tape, hkV.output.trans hk5.output, Nat.le_trans hk5.size hkV.size, fun i hi hx => (hkV.block i (Nat.lt_of_lt_of_le hi hk5.size) (fun e3 => by omega)).trans (hk5.block i hi hx)⟩
  have hkw2 : Kept (OfS b mo) w w2 := Kept.of_below hb2 (Nat.le_refl _)
  have hmm := @run_makeMap Try.prog
  have hen := eql_none
  have hes := eql_some
  have HBA := Lib.hid (fun a ha => hA2.apart (b := b) h2.blk (by intro n h; cases h) hd a ha)
  have hbw : b < w.heap.size := h.lt
  have HNN := Lib.hid h2.none_
  have hlt : hasM M p = false → decide ((M.length : Int) < 4096) = true ∧ decide (M.length < 4096) = true ∧ decide (4096 ≤ M.length) = false ∧ decide ((4096 : Int) ≤ (M.length : Int)) = false := by
    intro e
    rcases hh with hh | hh
    · rw [e] at hh; cases hh
    · simp; omega
  have HLT := Lib.hid hlt
  cases mo with
  | none =>
    obtain rfl := HNN.out rfl
    have hs2 : w2.heap.size = w.heap.size + 1 + 1 := by rw [hw2]; simp
    have hbb : (w2.alloc (.map #[] 0)).heap[b]? = some (.cells #[.map none] 27 (0, 0)) := (Below.heap_alloc _ _ _ h2.lt).trans h2.blk
    have f1 := blk_free hbb 0
    have c1 := blk_cell hbb 0
    simp only [List.getElem?_toArray, List.getElem?_cons_zero] at c1
    have h4 : ShAt ((w2.alloc (.map #[] 0)).setCell ⟨b, 0, none⟩ (.map (some w2.heap.size))) b (some w2.heap.size) N [] := by
      have hba : (w2.alloc (.map #[] 0)).heap[b]? = some (.cells #[.map none] 27 (0, 0)) := (Below.heap_alloc _ _ _ h2.lt).trans h2.blk
      refine ⟨by rw [blk_set hba]; rfl, fun e => (by cases e), fun m e => ?_, Ok.nil⟩
      cases e
      refine ((MapM.made w2).kept (X := fun k => k = b) ((Kept.refl (fun k => k = b) _).setCell (p := ⟨b, 0, none⟩) (.inl rfl) _) ?_ ?_).mono' (Nat.zero_le _)
      · have := h2.lt; omega
      · rintro k cur f hc rfl
        rw [hba] at hc
        injection hc with hc
        injection hc with _ h _
        exact absurd h (by decide)
    have hk4 : Kept (OfS b none) w ((w2.alloc (.map #[] 0)).setCell ⟨b, 0, none⟩ (.map (some w2.heap.size))) := (hkw2.alloc _).setCell (p := ⟨b, 0, none⟩) (.inl (.inl rfl)) _
    have hA4 : BytesAt ((w2.alloc (.map #[] 0)).setCell ⟨b, 0, none⟩ (.map (some w2.heap.size))) A d := (hA2.below ((Below.refl _ _).alloc (Nat.le_refl _) _)).kept ((Kept.refl (fun k => k = b) _).setCell (p := ⟨b, 0, none⟩) (.inl rfl) _) (fun a ha e => HBA.out a ha e)
    have hbx4 : ((w2.alloc (.map #[] 0)).setCell ⟨b, 0, none⟩ (.map (some w2.heap.size))).heap[w.heap.size]? = some (recO kn nn A d.length cap) := by
      rw [Below.heap_setCell _ _ _ _ (by simp; omega), Below.heap_alloc _ _ _ (blk_lt hbx)]; exact hbx
    obtain ⟨hcl, q1, q2⟩ := HT.out _ _ h4 hk4 (.inr (by omega)) hA4 hbx4
    have HCL := Lib.hid hcl
    have hlt0 : decide ((([] : List Ent).length : Int) < 4096) = true := by decide
    have hh0 : hasM [] p = false := rfl
    rw [hh0] at hl
    obtain ⟨w4, hw4⟩ : ∃ w4, w4 = (w2.alloc (.map #[] 0)).setCell ⟨b, 0, none⟩ (.map (some w2.heap.size)) := ⟨_, rfl⟩
    rw [← hw4] at q1 q2 HCL
    rw [hs2] at hw4 q1 HCL
    rw [hw2] at c0 f0 c1 f1 hl HLen hw4
    have HW4 := Lib.hid hw4
    clear h h2 hb2 e1 e2 hw2 hm hp hP0 hh hd hA hA2 HQ HT hok hkw2 hbx h4 hk4 hA4 hbx4 hcl hw4 HNN hlt hs2 HLT hbb
    simp only [List.length_nil] at HLen
    generalize d.length = L at *
    go_enter Try.func11, Try.ntmps11
    go_wp2_with fail
    (with_reducible refine (HC.out _).mono ?_)
    rintro e w1 ⟨rfl, rfl⟩
    go_wp2_with fail
    (with_reducible refine (hP.out _).mono ?_)
    rintro e w1 ⟨rfl, rfl⟩
    go_wp2_with fail
    (with_reducible refine HLen.out.mono ?_)
    rintro e w1 ⟨rfl, rfl⟩
    go_upto_region 15 with fail
    rw [← HW4.out]
    go_region_held3 (fun V => V.cell? ⟨b, 0, none⟩ = some (.map (some (w.heap.size + 1 + 1))) ∧ V.cell? ⟨w.heap.size, 2, none⟩ = some (.slice A L cap)) (first | exact ⟨q1, q2⟩ | exact hs9 | exact hsA) (first | (go_at_call 28; (with_reducible refine HCL.out.mono ?_); rintro e V ⟨v9, V9, rfl, hs9, hr9, hsA, hf9⟩; have HF9 := Lib.hid hf9; clear hf9))
    go_wp2
    exact HF9.out
  | some m =>
    obtain ⟨hcl, q1, q2⟩ := HT.out _ m h2 hkw2 (.inl rfl) hA2 hbx
    have HCL := Lib.hid hcl
    obtain ⟨w4, hw4⟩ : ∃ w4, w4 = w2 := ⟨_, rfl⟩
    rw [← hw4] at q1 q2 HCL
    rw [hw2] at c0 f0 hl HLen hw4
    have HW4 := Lib.hid hw4
    have hb0 : hasM M p = true ∨ hasM M p = false := by cases hasM M p <;> simp
    clear h h2 hb2 e1 e2 hw2 hm hp hP0 hh hd hA hA2 HQ HT hok hkw2 hbx hcl hw4 HNN hlt
    generalize d.length = L at *
    generalize M.length = ML at *
    rcases hb0 with hb0 | hb0
    · rw [hb0] at hl
      clear HLT hb0
      go_enter Try.func11, Try.ntmps11
      go_wp2_with fail
      (with_reducible refine (HC.out _).mono ?_)
      rintro e w1 ⟨rfl, rfl⟩
      go_wp2_with fail
      (with_reducible refine (hP.out _).mono ?_)
      rintro e w1 ⟨rfl, rfl⟩
      go_upto_region 15 with fail
      rw [← HW4.out]
      go_region_held3 (fun V => V.cell? ⟨b, 0, none⟩ = some (.map (some m)) ∧ V.cell? ⟨w.heap.size, 2, none⟩ = some (.slice A L cap)) (first | exact ⟨q1, q2⟩ | exact hs9 | exact hsA) (first | (go_at_call 28; (with_reducible refine HCL.out.mono ?_); rintro e V ⟨v9, V9, rfl, hs9, hr9, hsA, hf9⟩; have HF9 := Lib.hid hf9; clear hf9))
      go_wp2
      exact HF9.out
    · rw [hb0] at hl
      obtain ⟨l1, l2, l3, l4⟩ := HLT.out hb0
      clear HLT hb0
      go_enter Try.func11, Try.ntmps11
      go_wp2_with fail
      (with_reducible refine (HC.out _).mono ?_)
      rintro e w1 ⟨rfl, rfl⟩
      go_wp2_with fail
      (with_reducible refine (hP.out _).mono ?_)
      rintro e w1 ⟨rfl, rfl⟩
      go_wp2_with fail
      (with_reducible refine HLen.out.mono ?_)
      rintro e w1 ⟨rfl, rfl⟩
      go_upto_region 15 with fail
      rw [← HW4.out]
      go_region_held3 (fun V => V.cell? ⟨b, 0, none⟩ = some (.map (some m)) ∧ V.cell? ⟨w.heap.size, 2, none⟩ = some (.slice A L cap)) (first | exact ⟨q1, q2⟩ | exact hs9 | exact hsA) (first | (go_at_call 28; (with_reducible refine HCL.out.mono ?_); rintro e V ⟨v9, V9, rfl, hs9, hr9, hsA, hf9⟩; have HF9 := Lib.hid hf9; clear hf9))
      go_wp2
      exact HF9.out
/-- What bytes of a record are. -/
structure RecOk (w : World) (r : Rec) (A : Option Addr) (cap : Nat) : Prop where
  dat : BytesAt w A r.d
  nil : A = none → r.d = [] ∧ cap = 0
  lt : ∀ c ∈ r.d, c < 256
theorem RecOk.below {w' : World} (h : RecOk w r A cap) (hb : Below w.heap.size w w') : RecOk w' r A cap := ⟨h.dat.below hb, h.nil, h.lt⟩
theorem write_any (h : ShAt w b mo N M) (hN : N < 10000000) (hr : RecOk w r A cap) :
    Calls Try.prog 11 #[.pointer (some ⟨b, 0, none⟩), recA r.k r.n A r.d.length cap] w (WrQ w b mo N M r) := by
  rcases wrE_cases M r with ⟨_, h1⟩ | ⟨_, h1, h2⟩ | ⟨_, h1, h2, h3⟩ | ⟨_, h1, h2, h3, h4⟩
  · exact write_bad h h1
  · exact write_del h h1 h2
  · exact write_put h hN h1 h2 hr.dat hr.nil hr.lt h3
  · exact write_full h h1 h2 h3 h4
end
end Go.Proofs.Ytgciibcngmimkaa
