/-
  The document's Find: its walk.
-/
import Derived.Test.YtkedjnhidfnlkaaDoorFs2
namespace Go.Proofs.YtkedjnhidfnlkaaDoor
set_option maxRecDepth 100000
set_option linter.unusedSimpArgs false
open Go Go.RowKit Rq

/-- What the document's Find leaves. -/
def RFndP (x : List Nat × Int) (w : World) (e : Ending) (w' : World) : Prop :=
  ∃ v, e = .returned (.tuple #[v, .int .i64 x.2]) ∧ w'.ownsRow w.heap.size 3 1 v x.1.length (x.1.map natV) ∧ Below w.heap.size w w'

structure FJ (gd : Nat) (d : List Nat) (w : World) (v : Value) (l : List Nat) (wr : World) : Prop where
  dj : DJ gd d w wr
  own : wr.ownsRow w.heap.size 3 1 v l.length (l.map natV)
  ne : v.ownBlock ≠ some gd
section
variable {gd : Nat} {d : List Nat} {w wr w2 : World} {v : Value} {l : List Nat}
theorem FJ.below (h : FJ gd d w v l wr) (hb : Below wr.heap.size wr w2) : FJ gd d w v l w2 :=
  ⟨h.dj.below hb, (Kept.of_below hb (Nat.le_refl _)).row h.own (fun _ _ h => h), h.ne⟩
theorem FJ.start (h : DJ gd d w wr) (c : Nat) : FJ gd d w (.slice (some ⟨wr.heap.size, 0, none⟩) 1 1) [c] (wr.alloc (.cells #[natV c] 3)) := by
  refine ⟨h.below ((Below.refl _ _).alloc (Nat.le_refl _) _), ?_, ?_⟩
  · have hnew := heap_alloc_new wr (.cells #[natV c] 3)
    have hs := h.bl.size
    have := rowQ_of_cells (base := w.heap.size) (cap := 1) (ys := [c]) hnew (by omega) rfl (by simp) (by unfold maxLen; omega) (fun j hj => by
      have : j = 0 := by simp at hj; omega
      subst this
      rw [blk_cell hnew]
      rfl)
    simpa using this
  · have := blk_lt h.blk
    simp only [Value.ownBlock, ne_eq, Option.some.injEq]
    omega
theorem FJ.app {y g2 cap2 : Nat} {o : Obj} (h : FJ gd d w v l wr) (hg : (wr.alloc o).grownBy w2 v.ownBlock)
    (ho : w2.ownsRow w.heap.size 3 1 (.slice (some ⟨g2, 0, none⟩) (l.length + 1) cap2) (l.length + 1) (l.map natV ++ [natV y])) (hat : v.ownBlock = some g2 ∨ g2 = wr.heap.size + 1) : FJ gd d w (.slice (some ⟨g2, 0, none⟩) (l.length + 1) cap2) (l ++ [y]) w2 := by
  have hk : Kept (fun k => v.ownBlock = some k) wr w2 := ((Kept.refl _ wr).alloc o).trans ((Kept.refl (fun k => v.ownBlock = some k) (wr.alloc o)).grown hg (fun k h => .inl h)) (fun _ _ h => h)
  have hgl := blk_lt h.dj.blk
  have hs := h.dj.bl.size
  refine ⟨⟨(h.dj.bl.alloc h.dj.bl.size _).grown hg (by simp; omega) (fun j hj => (h.own.lt j hj).1), (hk.block gd hgl h.ne).trans h.dj.blk, h.dj.lo⟩, by simpa using ho, ?_⟩
  simp only [Value.ownBlock, ne_eq, Option.some.injEq]
  rintro rfl
  rcases hat with h5 | h5
  · exact h.ne h5
  · omega
end

def atZ (o : Option Nat) : Int := match o with | none => -1 | some y => (y : Int)
theorem pth_cut {N : Nat} {bk nx : Nat → List Nat} {may : Nat → Bool} {e k c : Nat} {l r : List Nat} (he : e < N) (hbn : ∀ x b, b ∈ bk x ↔ b < N ∧ x ∈ nx b) (hd : dsO N nx may e c = some (k + 1)) (h : l ++ (pthR N nx may e (k + 1) c).tail = r) :
    ∃ y, (nx c).find? (fun y => dsO N nx may e y == some k) = some y ∧ y ∈ nx c ∧ dsO N nx may e y = some k ∧ (l ++ [y]) ++ (pthR N nx may e k y).tail = r := by
  obtain ⟨y, h1, h2, h3, h4⟩ := pthR_succ he hbn ((dsO_some he hbn).1 hd)
  refine ⟨y, h1, h2, (dsO_some he hbn).2 h3, ?_⟩
  rw [← h, h4]
  have : pthR N nx may e k y = y :: (pthR N nx may e k y).tail := by cases k <;> rfl
  rw [List.tail_cons, List.append_assoc]
  conv => rhs; rw [this]
  rfl
theorem find_more {p : Nat → Bool} {l : List Nat} {j y : Nat} (hy : l[j]? = some y) : (l.take (j + 1)).find? p = match (l.take j).find? p with | some z => some z | none => if p y = true then some y else none := by
  rw [List.take_add_one, hy, Option.toList_some, List.find?_append]
  cases (l.take j).find? p with
  | some z => rfl
  | none => cases h : p y <;> simp [h]
theorem find_low {p : Nat → Bool} {l : List Nat} {j y z : Nat} (hr : l.Pairwise (· < ·)) (hy : l[j]? = some y) (hz : (l.take j).find? p = some z) : z < y := by
  have h1 := List.mem_of_find?_eq_some hz
  have h2 : y ∈ l.drop j := List.mem_of_getElem? (i := 0) (by rw [List.getElem?_drop]; simpa using hy)
  rw [← List.take_append_drop j l] at hr
  exact (List.pairwise_append.1 hr).2.2 z h1 y h2

def FoutR (N : Nat) (nx : Nat → List Nat) (may : Nat → Bool) (e D fr gd : Nat) (d : List Nat) (w : World) (v a u : Value) (wr : World) : Prop :=
  ∃ (l : List Nat) (gq cap c k : Nat), v = .slice (some ⟨gq, 0, none⟩) l.length cap ∧ a = .int .i64 (c : Int) ∧ u = .int .i64 (k : Int) ∧ FJ gd d w v l wr ∧ l ++ (pthR N nx may e k c).tail = pthR N nx may e D fr ∧ dsO N nx may e c = some k ∧ l.length + k = D + 1 ∧ c < N

set_option maxHeartbeats 4000000 in
theorem rfind_ok {b g cap fr to_ : Nat} {Q : List ByteArray} {w : World} {B : Option Addr} {ban : List Int} {cb : Nat} (bud : Int) (h : RefAt w b g cap Q) (hg : Pure.Good (lsts Q)) (hff : freeB (lsts Q).flatten (fr : Int) = true) (hft : freeB (lsts Q).flatten (to_ : Int) = true) (hfr : fr < (lsts Q).flatten.length) (hto : to_ < (lsts Q).flatten.length) (hB : IntsAt w B ban) (hbm : ban.length ≤ maxLen) :
    Calls Tryd.prog 15 #[.pointer (some ⟨b, 0, none⟩), .int .i64 (fr : Int), .int .i64 (to_ : Int), .slice B ban.length cb, .int .i64 bud] w (RFndP (findZ (lsts Q).length (Pure.wid (lsts Q)) (lsts Q).flatten (fr : Int) (to_ : Int) ban bud) w) := by
  have hsm := hg.small
  have HRr : Hid (∀ wr, Below w.heap.size w wr → RefAt wr b g cap Q) := fun wr hb => h.below hb (Nat.le_refl _)
  have HFree : Hid (∀ (x : Nat) wr, freeB (lsts Q).flatten (x : Int) = true → RefAt wr b g cap Q → Calls Tryd.prog 22 #[.pointer (some ⟨b, 0, none⟩), .int .i64 (x : Int)] wr fun e w'' => e = .returned (.bool true) ∧ ∃ n, w'' = wr.drewN n) := fun x wr hx h => by
    have h1 := rfree_any (x : Int) h hg
    rw [hx] at h1
    exact h1
  have HBb : Hid (∀ wr, Below w.heap.size w wr → IntsAt wr B ban) := fun wr hb => hB.below hb (Nat.le_refl _)
  have HLooks : Hid (∀ wr, RefAt wr b g cap Q → IntsAt wr B ban → Calls Tryd.prog 19 #[.pointer (some ⟨b, 0, none⟩), .int .i64 (fr : Int), .int .i64 (to_ : Int), .slice B ban.length cb] wr (fun e w' => e = .returned (.int .i64 ((looksN (lsts Q).length (Pure.wid (lsts Q)) (lsts Q).flatten ban fr to_ : Nat) : Int)) ∧ Below wr.heap.size wr w')) := fun wr h1 h2 => looks_ref h1 hg hfr hto h2 hbm
  have HDists : Hid (∀ wr, RefAt wr b g cap Q → IntsAt wr B ban → Calls Tryd.prog 50 #[.pointer (some ⟨b, 0, none⟩), .int .i64 (fr : Int), .int .i64 (to_ : Int), .slice B ban.length cb] wr (DistsP (lsts Q).length (Pure.wid (lsts Q)) (lsts Q).flatten ban fr to_ wr)) := fun wr h1 h2 => dists_ref h1 hg hto h2 hbm
  have HNx : Hid (∀ (c : Nat) wr, c < (lsts Q).flatten.length → RefAt wr b g cap Q → Calls Tryd.prog 51 #[.pointer (some ⟨b, 0, none⟩), .int .i64 (c : Int)] wr (ListPost wr (outs (lsts Q).length (Pure.wid (lsts Q)) (lsts Q).flatten c))) := fun c wr hc h => by
    have h1 := rnext_any (c : Int) h hg
    rw [next_eq hg.lo (good_area hg)] at h1
    have hnl : nextZ (lsts Q).length (Pure.wid (lsts Q)) (lsts Q).flatten (c : Int) = outs (lsts Q).length (Pure.wid (lsts Q)) (lsts Q).flatten c := by unfold nextZ; rw [if_pos (by omega)]; rfl
    rw [hnl] at h1
    exact h1
  have HRise : Hid (∀ c, (outs (lsts Q).length (Pure.wid (lsts Q)) (lsts Q).flatten c).Pairwise (· < ·)) := fun c => outs_rise _ _ _ c hg.lo
  have HLk4 : Hid (∀ c, (outs (lsts Q).length (Pure.wid (lsts Q)) (lsts Q).flatten c).length ≤ 4) := fun c => outs_len _ _ _ c
  have HbM : Hid (∀ c, ∀ y ∈ outs (lsts Q).length (Pure.wid (lsts Q)) (lsts Q).flatten c, y < (lsts Q).flatten.length) := fun c y hy => by
    have h1 := outs_bd hy
    rw [good_area hg] at h1
    exact h1
  have HBn : Hid (∀ x b, b ∈ ins (lsts Q).length (Pure.wid (lsts Q)) (lsts Q).flatten x ↔ b < (lsts Q).flatten.length ∧ x ∈ outs (lsts Q).length (Pure.wid (lsts Q)) (lsts Q).flatten b) := bkN _ _ _
  have HDst : Hid (∀ wr e w', DistsP (lsts Q).length (Pure.wid (lsts Q)) (lsts Q).flatten ban fr to_ wr e w' → ∃ (gd : Nat) (d : List Nat), e = .returned (.slice (some ⟨gd, 0, none⟩) (lsts Q).flatten.length (lsts Q).flatten.length) ∧ DJ gd d wr w' ∧ d.length = (lsts Q).flatten.length ∧ ∀ x, x < (lsts Q).flatten.length → d.getD x 0 = match dsO (lsts Q).flatten.length (outs (lsts Q).length (Pure.wid (lsts Q)) (lsts Q).flatten) (mayZ ban fr) to_ x with | none => 0 | some v => v + 1) := fun wr e w' h => h
  have HVl : Hid (∀ x v, dsO (lsts Q).flatten.length (outs (lsts Q).length (Pure.wid (lsts Q)) (lsts Q).flatten) (mayZ ban fr) to_ x = some v → v < (lsts Q).flatten.length) := fun x v hv => dsZ_lt hv
  have hfz : findZ (lsts Q).length (Pure.wid (lsts Q)) (lsts Q).flatten (fr : Int) (to_ : Int) ban bud = if bud < ((looksN (lsts Q).length (Pure.wid (lsts Q)) (lsts Q).flatten ban fr to_ : Nat) : Int) then (([] : List Nat), (41 : Int)) else match dsO (lsts Q).flatten.length (outs (lsts Q).length (Pure.wid (lsts Q)) (lsts Q).flatten) (mayZ ban fr) to_ fr with | none => ([], 40) | some D => (pthR (lsts Q).flatten.length (outs (lsts Q).length (Pure.wid (lsts Q)) (lsts Q).flatten) (mayZ ban fr) to_ D fr, 0) := by
    unfold findZ
    rw [hff, hft]
    rfl
  rw [hfz]
  have hF1 := HFree.out fr w hff h
  have HF2 : Hid (∀ n, Calls Tryd.prog 22 #[.pointer (some ⟨b, 0, none⟩), .int .i64 (to_ : Int)] (w.drewN n) fun e w'' => e = .returned (.bool true) ∧ ∃ k, w'' = (w.drewN n).drewN k) := fun n => HFree.out to_ _ hft (h.drewN n)
  have HF1 := Lib.hid hF1
  clear h hg hB hfz hF1 hff hft HFree
  generalize looksN (lsts Q).length (Pure.wid (lsts Q)) (lsts Q).flatten ban fr to_ = L at *
  generalize DistsP (lsts Q).length (Pure.wid (lsts Q)) (lsts Q).flatten ban fr to_ = DP at *
  generalize outs (lsts Q).length (Pure.wid (lsts Q)) (lsts Q).flatten = nx at *
  generalize ins (lsts Q).length (Pure.wid (lsts Q)) (lsts Q).flatten = bk at *
  generalize (lsts Q).flatten.length = N at *
  generalize mayZ ban fr = may at *
  obtain ⟨P, hP⟩ : ∃ P, P = RFndP (if bud < (L : Int) then (([] : List Nat), (41 : Int)) else match dsO N nx may to_ fr with | none => ([], 40) | some D => (pthR N nx may to_ D fr, 0)) w := ⟨_, rfl⟩
  have H41 : Hid (bud < (L : Int) → ∀ w', Below w.heap.size w w' → P (.returned (.tuple #[.slice none 0 0, .int .i64 41])) w') := fun hb w' hw => by
    rw [hP, if_pos hb]
    exact ⟨_, rfl, World.ownsRow_nil _ _ _ _, hw⟩
  have H40 : Hid (¬ bud < (L : Int) → dsO N nx may to_ fr = none → ∀ w', Below w.heap.size w w' → P (.returned (.tuple #[.slice none 0 0, .int .i64 40])) w') := fun hb hd w' hw => by
    rw [hP, if_neg hb, hd]
    exact ⟨_, rfl, World.ownsRow_nil _ _ _ _, hw⟩
  have HOk : Hid (¬ bud < (L : Int) → ∀ D, dsO N nx may to_ fr = some D → ∀ v w' l, l = pthR N nx may to_ D fr → w'.ownsRow w.heap.size 3 1 v l.length (l.map natV) → Below w.heap.size w w' → P (.returned (.tuple #[v, .int .i64 0])) w') := fun hb D hd v w' l hl ho hw => by
    rw [hP, if_neg hb, hd]
    subst hl
    exact ⟨_, rfl, ho, hw⟩
  rw [← hP]
  clear hP
  go_enter Tryd.func15, Tryd.ntmps15
  go_wp2_with fail
  refine HF1.out.mono ?_
  rintro e w1 ⟨rfl, n1, rfl⟩
  go_wp2_with fail
  refine (HF2.out n1).mono ?_
  rintro e w2 ⟨rfl, n2, hw2⟩
  have HB2 : Hid (Below w.heap.size w w2) := by rw [hw2]; exact bel_drewN (bel_drewN (Below.refl _ _) n1) n2
  clear hw2 HF1 HF2
  have HLk := Lib.hid (HLooks.out w2 (HRr.out w2 HB2.out) (HBb.out w2 HB2.out))
  go_wp2_with fail
  refine HLk.out.mono ?_
  rintro e w3 ⟨rfl, hb3⟩
  have HB3 : Hid (Below w.heap.size w w3) := HB2.out.trans (hb3.mono HB2.out.size)
  clear hb3 HLk HB2 HLooks
  by_cases hbud : bud < (L : Int)
  · have q1 : decide (bud < (L : Int)) = true := decide_eq_true hbud
    have HF := Lib.hid (H41.out hbud w3 HB3.out)
    clear hbud H41 H40 HOk
    go_wp2
    first | exact HF.out | (go_ret2; exact HF.out) | (go_ret; exact HF.out) | trace_state
  have q1 : decide (bud < (L : Int)) = false := decide_eq_false hbud
  have HNb := Lib.hid hbud
  have HDc := Lib.hid (HDists.out w3 (HRr.out w3 HB3.out) (HBb.out w3 HB3.out))
  go_wp2_with fail
  refine HDc.out.mono ?_
  intro e w4 he
  obtain ⟨gd, d, rfl, hdj, hlen, hval⟩ := HDst.out _ _ _ he
  have HJ : Hid (DJ gd d w w4) := ⟨HB3.out.trans (hdj.bl.mono HB3.out.size), hdj.blk, Nat.le_trans HB3.out.size hdj.lo⟩
  have HLen := Lib.hid hlen
  have HVal := Lib.hid hval
  have ff : w4.cell? ⟨gd, fr, none⟩ = some (.int .i64 (((d.getD fr 0 : Nat) : Int) - 1)) := hdj.cell (j := fr) (by rw [hlen]; exact hfr)
  rw [hval fr hfr] at ff
  clear he HDc HDists HDst hdj hlen hval q1 hbud
  have r0 : (0 : Int) ≤ (fr : Int) := by omega
  have r1 : (fr : Int) < (N : Int) := by omega
  cases hdf : dsO N nx may to_ fr with
  | none =>
    rw [hdf] at ff
    replace ff : w4.cell? ⟨gd, fr, none⟩ = some (.int .i64 (-1)) := ff
    have HF := Lib.hid (H40.out HNb.out hdf w4 HJ.out.bl)
    clear H41 H40 HOk
    go_wp2
    first | exact HF.out | (go_ret2; exact HF.out) | (go_ret; exact HF.out) | trace_state
  | some D =>
    rw [hdf] at ff
    have ff' : w4.cell? ⟨gd, fr, none⟩ = some (.int .i64 (D : Int)) := by
      rw [ff]
      have : (((D + 1 : Nat) : Int) - 1) = (D : Int) := by omega
      show some (Value.int .i64 (((D + 1 : Nat) : Int) - 1)) = _
      rw [this]
    clear ff
    have e2 : decide ((D : Int) < 0) = false := decide_eq_false (by omega)
    have HDf := Lib.hid hdf
    have hDN := HVl.out fr D hdf
    have HS : Hid (FoutR N nx may to_ D fr gd d w (.slice (some ⟨w4.heap.size, 0, none⟩) 1 1) (.int .i64 (fr : Int)) (.int .i64 (D : Int)) (w4.alloc (.cells #[.int .i64 (fr : Int)] 3))) :=
      ⟨[fr], w4.heap.size, 1, fr, D, rfl, rfl, rfl, FJ.start HJ.out fr, by cases D <;> rfl, hdf, by simp; omega, hfr⟩
    have ff2 : ∀ o, (w4.alloc o).cell? ⟨gd, fr, none⟩ = some (.int .i64 (D : Int)) := fun o => ((Kept.refl (fun _ => False) w4).alloc o).cell ff' id
    have ff2a := ff2 (.cells #[.int .i64 (fr : Int)] 3)
    have HRet : Hid (∀ v w' l, l = pthR N nx may to_ D fr → w'.ownsRow w.heap.size 3 1 v l.length (l.map natV) → Below w.heap.size w w' → P (.returned (.tuple #[v, .int .i64 0])) w') := HOk.out HNb.out D hdf
    clear H41 H40 HOk HNb ff2 hdf
    go_wp2
    clear ff2a ff' e2
    go_loopw [13, 14, 15] (fun v a u wr => FoutR N nx may to_ D fr gd d w v a u wr) (fun _ _ u _ => (intOf u).toNat)
    case atStart => exact HS.out
    case round =>
      obtain ⟨l, gq, cap, c, k, rfl, rfl, rfl, hfj, heq, hck, hld, hcN⟩ := hrel
      rename World => W
      clear HS
      have HFj := Lib.hid hfj
      have HEq := Lib.hid heq
      have HCk := Lib.hid hck
      have HLd := Lib.hid hld
      cases k with
      | zero =>
        have HF : Hid (P (.returned (.tuple #[.slice (some ⟨gq, 0, none⟩) l.length cap, .int .i64 0])) W) := by
          refine HRet.out _ W l ?_ hfj.own hfj.dj.bl
          rw [← heq]; simp [pthR, pthF]
        clear hfj heq hck hld HFj HEq HCk HLd HRet
        generalize l.length = ll at *
        go_wp2
        first | exact HF.out | (go_ret2; exact HF.out) | (go_ret; exact HF.out) | trace_state
      | succ k =>
        obtain ⟨y0, hy0, hy0m, hy0k, hy0p⟩ := pth_cut hto HBn.out hck heq
        have HY0 := Lib.hid (And.intro hy0 (And.intro hy0m (And.intro hy0k hy0p)))
        have HW1 := Lib.hid (HNx.out c W hcN (HRr.out W hfj.dj.bl))
        have hkN : k + 1 < N := HVl.out c _ hck
        have hsz := blk_lt hfj.dj.blk
        obtain ⟨kz, hkz⟩ : ∃ kz : Int, kz = ((k + 1 : Nat) : Int) := ⟨_, rfl⟩
        rw [← hkz]
        have hw : IntKind.i64.wrap (kz - 1) = (k : Int) := by rw [hkz]; exact (IntWalk.i64_in _ (by omega)).trans (by omega)
        have hg0 : decide (0 < kz) = true := decide_eq_true (by omega)
        have HKz := Lib.hid hkz
        clear hfj heq hck hld hy0 hy0m hy0k hy0p hkz
        have HLlen : Hid (l.length ≤ N) := by show _ ≤ _; have := HLd.out; omega
        obtain ⟨ll, hll⟩ : ∃ ll, ll = l.length := ⟨_, rfl⟩
        have HLL := Lib.hid hll
        rw [← hll]
        clear hll
        go_wp2_with (go_at_call 51; fail)
        refine HW1.out.mono ?_
        rintro e w5 ⟨v5, rfl, hrow, hbl5⟩
        have HFj5 := Lib.hid (HFj.out.below hbl5)
        obtain ⟨A, cp, rfl, hia, hav⟩ := row_ints hrow
        have HIA := Lib.hid hia
        clear HW1 hrow hbl5 hia hav HFj hg0
        have hL4 := HLk4.out c
        generalize hK : (nx c).length = kk at *
        have HK := Lib.hid hK
        clear hK
        go_wp2
        go_loopw [17, 18] (fun a u wr => w5 = wr ∧ ∃ j : Nat, j ≤ kk ∧ u = .int .i64 (j : Int) ∧ a = .int .i64 (atZ (((nx c).take j).find? (fun y => dsO N nx may to_ y == some k)))) (fun _ u _ => kk - (intOf u).toNat)
        case atStart => exact ⟨rfl, 0, Nat.zero_le _, rfl, rfl⟩
        case round =>
          obtain ⟨rfl, j, hj, rfl, rfl⟩ := hrel
          by_cases hjk : j < kk
          · have hjo : j < (nx c).length := by rw [HK.out]; exact hjk
            obtain ⟨q, rfl, fy⟩ := ints_at HIA.out (j := j) (by rw [intsQ_length]; exact hjo)
            obtain ⟨y, hy⟩ : ∃ y, (nx c)[j]? = some y := ⟨_, List.getElem?_eq_getElem hjo⟩
            have hgy : (intsQ (nx c)).getD j 0 = (y : Int) := by simp [intsQ, List.getD, hy]
            rw [hgy] at fy
            have hym := List.mem_of_getElem? hy
            have hyN := HbM.out c y hym
            have fd : w5.cell? ⟨gd, y, none⟩ = some (.int .i64 (((d.getD y 0 : Nat) : Int) - 1)) := HFj5.out.dj.cell (j := y) (by rw [HLen.out]; exact hyN)
            have hvy := HVal.out y hyN
            have HMore := Lib.hid (find_more (p := fun y => dsO N nx may to_ y == some k) hy)
            have HLow : Hid (∀ z, ((nx c).take j).find? (fun y => dsO N nx may to_ y == some k) = some z → z < y) := fun z hz => find_low (HRise.out c) hy hz
            have j0 : (0 : Int) ≤ (j : Int) := by omega
            have j1 : (j : Int) < (kk : Int) := by omega
            have y0' : (0 : Int) ≤ (y : Int) := by omega
            have y1' : (y : Int) < (N : Int) := by omega
            have hwj : IntKind.i64.wrap ((j : Int) + 1) = (j : Int) + 1 := IntWalk.i64_in _ (by omega)
            obtain ⟨qb, hqb⟩ : ∃ qb : Bool, qb = (dsO N nx may to_ y == some k) := ⟨_, rfl⟩
            obtain ⟨z, hz⟩ : ∃ z : Int, z = ((d.getD y 0 : Nat) : Int) - 1 := ⟨_, rfl⟩
            have hzq : (z == (k : Int)) = qb := by
              rw [hqb, hz, hvy, Bool.eq_iff_iff, beq_iff_eq, beq_iff_eq]
              cases hdy : dsO N nx may to_ y with
              | none => simp <;> omega
              | some v => simp only [Option.some.injEq]; omega
            rw [← hz] at fd
            have HQb := Lib.hid hqb
            clear hgy hy hym hvy hz hqb
            obtain ⟨o, ho⟩ : ∃ o, o = ((nx c).take j).find? (fun y => dsO N nx may to_ y == some k) := ⟨_, rfl⟩
            rw [← ho] at HMore HLow ⊢
            clear ho
            cases qb with
            | false =>
              have HF : Hid (w5 = w5 ∧ ∃ j' : Nat, j' ≤ kk ∧ Value.int .i64 ((j : Int) + 1) = .int .i64 (j' : Int) ∧ Value.int .i64 (atZ o) = .int .i64 (atZ (((nx c).take j').find? (fun y => dsO N nx may to_ y == some k)))) := by
                refine ⟨rfl, j + 1, hjk, by go_num, ?_⟩
                have h1 := HQb.out
                rw [HMore.out]
                cases o with
                | some z => rfl
                | none => simp only []; rw [if_neg (by rw [← h1]; simp)]
              clear HMore HLow HQb
              generalize atZ o = t at *
              go_wp2
              go_roundw
              case rel => exact ⟨trivial, HF.out.2⟩
              case measure => simp [intOf]; omega
            | true =>
              cases o with
              | none =>
                have HF : Hid (w5 = w5 ∧ ∃ j' : Nat, j' ≤ kk ∧ Value.int .i64 ((j : Int) + 1) = .int .i64 (j' : Int) ∧ Value.int .i64 (y : Int) = .int .i64 (atZ (((nx c).take j').find? (fun y => dsO N nx may to_ y == some k)))) := by
                  refine ⟨rfl, j + 1, hjk, by go_num, ?_⟩
                  have h1 := HQb.out
                  rw [HMore.out]
                  simp only []
                  rw [if_pos (by rw [← h1])]
                  rfl
                clear HMore HLow HQb
                rw [show atZ none = (-1 : Int) from rfl]
                go_wp2
                go_roundw
                case rel => exact ⟨trivial, HF.out.2⟩
                case measure => simp [intOf]; omega
              | some z0 =>
                have hlow := HLow.out z0 rfl
                have HF : Hid (w5 = w5 ∧ ∃ j' : Nat, j' ≤ kk ∧ Value.int .i64 ((j : Int) + 1) = .int .i64 (j' : Int) ∧ Value.int .i64 (z0 : Int) = .int .i64 (atZ (((nx c).take j').find? (fun y => dsO N nx may to_ y == some k)))) := by
                  refine ⟨rfl, j + 1, hjk, by go_num, ?_⟩
                  rw [HMore.out]
                  rfl
                have e3 : decide ((z0 : Int) < 0) = false := decide_eq_false (by omega)
                have e4 : decide ((y : Int) < (z0 : Int)) = false := decide_eq_false (by omega)
                have e5 : decide (y < z0) = false := decide_eq_false (by omega)
                have e6 : ¬ y < z0 := by omega
                clear HMore HLow HQb hlow
                rw [show atZ (some z0) = (z0 : Int) from rfl]
                go_wp2
                go_roundw
                case rel => exact ⟨trivial, HF.out.2⟩
                case measure => simp [intOf]; omega
          · obtain rfl : j = kk := by omega
            have hfin : atZ (((nx c).take j).find? (fun y => dsO N nx may to_ y == some k)) = (y0 : Int) := by
              rw [List.take_of_length_le (by rw [HK.out]; exact Nat.le_refl _), HY0.out.1]
              rfl
            rw [hfin]
            have hy0N := HbM.out c y0 HY0.out.2.1
            clear hfin
            obtain ⟨i0, hi0, hz0, hz1, hz2⟩ := info_parts Tryd.infoInt
            have HNe : Hid (∀ j u, [Value.int .i64 (y0 : Int)][j]? = some u → (w5.alloc (.cells #[.int .i64 (y0 : Int)] 3)).cell? (Addr.add ⟨w5.heap.size, 0, none⟩ j) = some u) := World.news_of_block (heap_alloc_new w5 (.cells #[.int .i64 (y0 : Int)] 3))
            have HOw : Hid (w5.ownsRow w.heap.size 3 1 (.slice (some ⟨gq, 0, none⟩) ll cap) ll (l.map natV)) := by
              have := HFj5.out.own
              rw [← HLL.out] at this
              exact this
            have hllN : ll ≤ N := by rw [HLL.out]; exact HLlen.out
            go_wp2_with (at_builtin; refine wpList_append_lies _ rfl (.tmp 93) (.tmp 95) 22 rfl w.heap.size 3 i0 (.int .i64 0) 1 8 Tryd.underlying22 hi0 hz0 hz1 hz2 rfl (by decide) (.slice (some ⟨gq, 0, none⟩) ll cap) ll (l.map natV) rfl (HOw.out.alloc _) ⟨w5.heap.size, 0, none⟩ 1 1 [.int .i64 (y0 : Int)] rfl rfl (by have := HNe.out; simpa using this) (by intro u hu; simp at hu; subst hu; rfl) (by decide) (by unfold maxLen; omega) (by omega) (by simp; have := HFj5.out.dj.bl.size; omega) (w5.heap.size + 1) (by simp) ?_; intro g2 cap5 w6 ho6 hg6 hat6 hlt6)
            have HF : Hid (FoutR N nx may to_ D fr gd d w (.slice (some ⟨g2, 0, none⟩) (ll + 1) cap5) (.int .i64 (y0 : Int)) (.int .i64 (k : Int)) w6) := by
              refine ⟨l ++ [y0], g2, cap5, y0, k, by rw [HLL.out]; simp, rfl, rfl, ?_, HY0.out.2.2.2, HY0.out.2.2.1, by have := HLd.out; simp; omega, hy0N⟩
              have h5 := HFj5.out
              have e9 := HLL.out
              rw [e9] at hg6 ho6 hat6 ⊢
              exact h5.app hg6 (by simpa [natV] using ho6) hat6
            clear ho6 hg6 hat6 hlt6
            have hm : k < kz.toNat := by rw [HKz.out]; omega
            go_wp2
            go_roundw
            case rel => exact HF.out
            case measure => simp [intOf]; omega
end Go.Proofs.YtkedjnhidfnlkaaDoor
