/-
  The document's Dists: its walk.
-/
import Derived.Test.YtkedjnhidfnlkaaDoorFs0
namespace Go.Proofs.YtkedjnhidfnlkaaDoor
set_option maxRecDepth 100000
set_option linter.unusedSimpArgs false
open Go Go.RowKit Rq

theorem set_mid (i n : Nat) : (List.replicate i 0 ++ List.replicate (n + 1) 1).set i 0 = List.replicate (i + 1) 0 ++ List.replicate n 1 := by
  rw [List.set_append, if_neg (by simp), List.length_replicate, Nat.sub_self, List.replicate_succ' (n := i), List.append_assoc]
  rfl
def DistsP (R C : Nat) (ms : List UInt8) (ban : List Int) (fr to_ : Nat) (w : World) (e : Ending) (w' : World) : Prop :=
  ∃ (g : Nat) (d : List Nat), e = .returned (.slice (some ⟨g, 0, none⟩) ms.length ms.length) ∧ DJ g d w w' ∧ DstL R C ms ban fr to_ d

def RoutD (N : Nat) (nx : Nat → List Nat) (ban : Nat → Bool) (c gd : Nat) (w : World) (u : Value) (wr : World) : Prop :=
  ∃ (d : List Nat) (k : Nat), k ≤ N ∧ u = .int .i64 (k : Int) ∧ DJ gd d w wr ∧ Ra N nx ban c d (k + 1) 0 [] ∧ ∀ x v : Nat, d[x]? = some v → v ≤ k + 1
def RmidD (N : Nat) (nx : Nat → List Nat) (ban : Nat → Bool) (c gd k : Nat) (w : World) (s u : Value) (wr : World) : Prop :=
  ∃ (d : List Nat) (a : Nat) (sb : Bool), a ≤ N ∧ s = .bool sb ∧ u = .int .i64 (a : Int) ∧ DJ gd d w wr ∧ Ra N nx ban c d (k + 1) a [] ∧ (sb = false → ∀ x v : Nat, d[x]? = some v → v ≤ k + 1)
def RinD (N : Nat) (nx : Nat → List Nat) (ban : Nat → Bool) (c gd k a : Nat) (A : Option Addr) (w : World) (s u : Value) (wr : World) : Prop :=
  ∃ (d : List Nat) (j : Nat) (sb : Bool), j ≤ (nx a).length ∧ s = .bool sb ∧ u = .int .i64 (j : Int) ∧ DJ gd d w wr ∧ Ra N nx ban c d (k + 1) a ((nx a).take j) ∧ d[a]? = some (k + 1) ∧ IntsAt wr A (intsQ (nx a)) ∧ (∀ q, A = some q → q.block ≠ gd) ∧ (sb = false → ∀ x v : Nat, d[x]? = some v → v ≤ k + 1)

set_option maxHeartbeats 4000000 in
theorem dists_ref {b g cap fr to_ : Nat} {Q : List ByteArray} {w : World} {B : Option Addr} {ban : List Int} {cb : Nat} (h : RefAt w b g cap Q) (hg : Pure.Good (lsts Q)) (hto : to_ < (lsts Q).flatten.length) (hB : IntsAt w B ban) (hbm : ban.length ≤ maxLen) :
    Calls Tryd.prog 50 #[.pointer (some ⟨b, 0, none⟩), .int .i64 (fr : Int), .int .i64 (to_ : Int), .slice B ban.length cb] w (DistsP (lsts Q).length (Pure.wid (lsts Q)) (lsts Q).flatten ban fr to_ w) := by
  have hsm := hg.small
  have HRr : Hid (∀ wr, Below w.heap.size w wr → RefAt wr b g cap Q) := fun wr hb => h.below hb (Nat.le_refl _)
  have HBb : Hid (∀ wr, Below w.heap.size w wr → IntsAt wr B ban) := fun wr hb => hB.below hb (Nat.le_refl _)
  have HC : Hid (∀ wr, RefAt wr b g cap Q → Calls Tryd.prog 57 #[.pointer (some ⟨b, 0, none⟩)] wr fun e w'' => e = .returned (.int .i64 ((lsts Q).flatten.length : Int)) ∧ ∃ n, w'' = wr.drewN n) := fun w' h => rcells_any h hg
  have HNx : Hid (∀ (a : Nat) wr, a < (lsts Q).flatten.length → RefAt wr b g cap Q → Calls Tryd.prog 77 #[.pointer (some ⟨b, 0, none⟩), .int .i64 (a : Int)] wr (ListPost wr (ins (lsts Q).length (Pure.wid (lsts Q)) (lsts Q).flatten a))) := fun a wr ha h => by
    have h1 := rback_any (a : Int) h hg
    rw [back_eq hg.lo (good_area hg)] at h1
    have hnl : backZ (lsts Q).length (Pure.wid (lsts Q)) (lsts Q).flatten (a : Int) = ins (lsts Q).length (Pure.wid (lsts Q)) (lsts Q).flatten a := by unfold backZ; rw [if_pos (by omega)]; rfl
    rw [hnl] at h1
    exact h1
  have HbM : Hid (∀ x, ∀ y ∈ ins (lsts Q).length (Pure.wid (lsts Q)) (lsts Q).flatten x, y < (lsts Q).flatten.length) := fun x y hy => (ins_mem.1 hy).1
  have HLk : Hid (∀ x, (ins (lsts Q).length (Pure.wid (lsts Q)) (lsts Q).flatten x).length ≤ 4) := fun x => ins_len4 hg.lo (good_area hg) x
  have hmk := makeInts_run (lsts Q).flatten.length (by omega)
  have HP : Hid (∀ (gd : Nat) (d : List Nat) w', DJ gd d w w' → DstL (lsts Q).length (Pure.wid (lsts Q)) (lsts Q).flatten ban fr to_ d → DistsP (lsts Q).length (Pure.wid (lsts Q)) (lsts Q).flatten ban fr to_ w (.returned (.slice (some ⟨gd, 0, none⟩) (lsts Q).flatten.length (lsts Q).flatten.length)) w') := fun gd d w' h1 h2 => ⟨gd, d, rfl, h1, h2⟩
  have HNo : Hid (obF ban fr to_ = true → DstL (lsts Q).length (Pure.wid (lsts Q)) (lsts Q).flatten ban fr to_ (List.replicate (lsts Q).flatten.length 0)) := fun he => dst_none hto he
  have HYes : Hid (∀ d k, obF ban fr to_ = false → Ra (lsts Q).flatten.length (ins (lsts Q).length (Pure.wid (lsts Q)) (lsts Q).flatten) (obF ban fr) to_ d k 0 [] → (∀ n x, n < (lsts Q).flatten.length → Fw (ins (lsts Q).length (Pure.wid (lsts Q)) (lsts Q).flatten) (obF ban fr) to_ n x → ∃ v : Nat, d[x]? = some (v + 1)) → DstL (lsts Q).length (Pure.wid (lsts Q)) (lsts Q).flatten ban fr to_ d) := fun d k he hra hall => dst_of hto he hra hall
  clear h hg hB
  generalize DistsP (lsts Q).length (Pure.wid (lsts Q)) (lsts Q).flatten ban fr to_ w = P at *
  generalize DstL (lsts Q).length (Pure.wid (lsts Q)) (lsts Q).flatten ban fr to_ = DL at *
  generalize ins (lsts Q).length (Pure.wid (lsts Q)) (lsts Q).flatten = nx at *
  generalize (lsts Q).flatten.length = N at *
  go_enter Tryd.func50, Tryd.ntmps50
  go_wp2_with fail
  refine (HC.out w (HRr.out w (Below.refl _ _))).mono ?_
  rintro e w2 ⟨rfl, n2, hw2⟩
  have HB2 : Hid (Below w.heap.size w w2) := by rw [hw2]; exact bel_drewN (Below.refl _ _) n2
  clear hw2
  obtain ⟨gd, hgd⟩ : ∃ gd, gd = w2.heap.size := ⟨_, rfl⟩
  have HD0 : Hid (DJ gd (List.replicate 0 0 ++ List.replicate (N - 0) 1) w (w2.alloc (.cells (madeCells #[.int .i64 0] N) 3))) := by
    refine ⟨HB2.out.alloc HB2.out.size _, ?_, by rw [hgd]; exact HB2.out.size⟩
    rw [hgd, dv_made]
    exact heap_alloc_new w2 _
  clear HB2
  go_wp2
  rw [← hgd]
  clear hmk hgd
  generalize w2.alloc (.cells (madeCells #[.int .i64 0] N) 3) = w3 at *
  go_loopw [11] (fun u wr => ∃ i : Nat, i ≤ N ∧ u = .int .i64 (i : Int) ∧ DJ gd (List.replicate i 0 ++ List.replicate (N - i) 1) w wr) (fun u _ => N - (intOf u).toNat)
  case atStart => exact ⟨0, Nat.zero_le _, rfl, HD0.out⟩
  case round =>
    obtain ⟨i, hi, rfl, hd⟩ := hrel
    rename World => W
    clear HD0
    have HD := Lib.hid hd
    by_cases hlt : i < N
    · have fc := hd.cell (j := i) (by simp; omega)
      have fz := blk_free hd.blk i
      have i0 : (0 : Int) ≤ (i : Int) := by omega
      have i1 : (i : Int) < (N : Int) := by omega
      have HF : Hid (∃ i' : Nat, i' ≤ N ∧ Value.int .i64 ((i : Int) + 1) = .int .i64 (i' : Int) ∧ DJ gd (List.replicate i' 0 ++ List.replicate (N - i') 1) w (W.setCell ⟨gd, i, none⟩ (.int .i64 (-1)))) := by
        refine ⟨i + 1, hlt, by go_num, ?_⟩
        have h1 := HD.out.set i 0
        have e : (List.replicate i 0 ++ List.replicate (N - i) 1).set i 0 = List.replicate (i + 1) 0 ++ List.replicate (N - (i + 1)) 1 := by
          rw [show N - i = (N - (i + 1)) + 1 by omega]
          exact set_mid i _
        rw [e] at h1
        exact h1
      clear hd HD
      generalize offV _ = z at fc
      go_wp2
      go_roundw
      case rel => exact HF.out
      case measure => simp [intOf]; omega
    · obtain rfl : N = i := by omega
      have HD1 : Hid (DJ gd (List.replicate N 0) w W) := by
        have := HD.out
        rw [Nat.sub_self, List.replicate_zero, List.append_nil] at this
        exact this
      clear hd HD
      have HO := Lib.hid (out_any (cap := cb) (HBb.out W HD1.out.bl) hbm (to_ : Int) (fr : Int))
      cases he : obF ban fr to_ with
      | true =>
        have HO1 : Hid (Calls Tryd.prog 58 #[.slice B ban.length cb, .int .i64 (to_ : Int), .int .i64 (fr : Int)] W fun e w' => e = .returned (.bool true) ∧ W = w') := by rw [← he]; exact HO.out
        have HF := Lib.hid (HP.out gd _ W HD1.out (HNo.out he))
        clear HO he HP HYes HNo
        go_wp2_with (with_reducible refine HO1.out.mono ?_; rintro e w' ⟨rfl, rfl⟩)
        exact HF.out
      | false =>
        have HO1 : Hid (Calls Tryd.prog 58 #[.slice B ban.length cb, .int .i64 (to_ : Int), .int .i64 (fr : Int)] W fun e w' => e = .returned (.bool false) ∧ W = w') := by rw [← he]; exact HO.out
        have fc := HD1.out.cell (j := to_) (by simpa using hto)
        have fz := blk_free HD1.out.blk to_
        have HR0 : Hid (RoutD N nx (obF ban fr) to_ gd w (.int .i64 0) (W.setCell ⟨gd, to_, none⟩ (.int .i64 0))) := by
          obtain ⟨h1, h2⟩ := Ra.start (nx := nx) (ban := obF ban fr) hto
          exact ⟨_, 0, Nat.zero_le _, rfl, HD1.out.set to_ 1, h1, h2⟩
        have HYs : Hid (∀ d k, Ra N nx (obF ban fr) to_ d k 0 [] → (∀ n x, n < N → Fw nx (obF ban fr) to_ n x → ∃ v : Nat, d[x]? = some (v + 1)) → DL d) := fun d k => HYes.out d k he
        have t0 : (0 : Int) ≤ (to_ : Int) := by omega
        have t1 : (to_ : Int) < (N : Int) := by omega
        clear HO he HD1 HNo HYes
        generalize offV _ = z at fc
        go_wp2_with (with_reducible refine HO1.out.mono ?_; rintro e w' ⟨rfl, rfl⟩)
        clear fc fz HO1
        generalize W.setCell ⟨gd, to_, none⟩ (.int .i64 0) = W0 at *
        go_loopw [12] (fun u wr => RoutD N nx (obF ban fr) to_ gd w u wr) (fun u _ => N + 1 - (intOf u).toNat)
        case atStart => exact HR0.out
        case round =>
          obtain ⟨d, k, hkN, rfl, hd, hra, htop⟩ := hrel
          rename World => V
          clear HR0
          by_cases hlt : k < N
          · have HM0 : Hid (RmidD N nx (obF ban fr) to_ gd k w (.bool false) (.int .i64 0) V) := ⟨d, 0, false, Nat.zero_le _, rfl, rfl, hd, hra, fun _ => htop⟩
            clear hd hra htop
            have k0 : (k : Int) < (N : Int) := by omega
            go_wp2
            go_loopw [13, 14] (fun s u wr => RmidD N nx (obF ban fr) to_ gd k w s u wr) (fun _ u _ => N - (intOf u).toNat)
            case atStart => exact HM0.out
            case round =>
              obtain ⟨d2, a, sb, haN, rfl, rfl, hd, hra, htop⟩ := hrel
              rename World => U
              clear HM0
              have HD := Lib.hid hd
              have HRa := Lib.hid hra
              have HTp := Lib.hid htop
              by_cases hlt2 : a < N
              · have fa : U.cell? ⟨gd, a, none⟩ = some (.int .i64 (((d2.getD a 0 : Nat) : Int) - 1)) := hd.cell (j := a) (by rw [hra.len]; exact hlt2)
                have a0 : (0 : Int) ≤ (a : Int) := by omega
                have a1 : (a : Int) < (N : Int) := by omega
                have hda : d2[a]? = some (d2.getD a 0) := by
                  have := hra.len
                  simp [List.getD, List.getElem?_eq_getElem (show a < d2.length by omega)]
                have HDa := Lib.hid hda
                clear hd hra hda htop
                obtain ⟨va, hva⟩ : ∃ va, va = d2.getD a 0 := ⟨_, rfl⟩
                rw [← hva] at fa HDa
                clear hva
                by_cases hvk : va = k + 1
                · subst hvk
                  have ev : (((k + 1 : Nat) : Int) - 1) = (k : Int) := by omega
                  rw [ev] at fa
                  have e1 : ((k : Int) != (k : Int)) = false := by simp
                  have HW1 := Lib.hid (HNx.out a U hlt2 (HRr.out U HD.out.bl))
                  have hwrl := HD.out.bl.size
                  go_wp2_with (go_at_call 77; fail)
                  refine HW1.out.mono ?_
                  rintro e w4 ⟨v4, rfl, hrow, hbl4⟩
                  have HD4 := Lib.hid (HD.out.below hbl4)
                  obtain ⟨A, cp, rfl, hia, hav⟩ := row_ints hrow
                  have HI0 : Hid (RinD N nx (obF ban fr) to_ gd k a A w (.bool sb) (.int .i64 0) w4) := by
                    refine ⟨d2, 0, sb, Nat.zero_le _, rfl, rfl, HD4.out, HRa.out, HDa.out, hia, fun q eq => ?_, HTp.out⟩
                    have h1 := (hrow.lt q.block (hav q eq)).1
                    have h2 := blk_lt HD.out.blk
                    omega
                  have hLk := HLk.out a
                  have HNa : Hid (∀ y ∈ nx a, y < N) := HbM.out a
                  clear HW1 hrow hbl4 hia hav HD HRa HDa HD4 e1 ev fa HTp
                  generalize hK : (nx a).length = kk at *
                  go_wp2
                  go_loopw [13, 16] (fun s u wr => RinD N nx (obF ban fr) to_ gd k a A w s u wr) (fun _ u _ => kk - (intOf u).toNat)
                  case atStart => exact HI0.out
                  case round =>
                    obtain ⟨d3, j, sb2, hj, rfl, rfl, hd, hra, hda, hia, hag, htop⟩ := hrel
                    rename World => T
                    clear HI0
                    have HD := Lib.hid hd
                    have HRa := Lib.hid hra
                    have HDa := Lib.hid hda
                    have HI := Lib.hid hia
                    have HAg := Lib.hid hag
                    have HTp := Lib.hid htop
                    by_cases hjl : j < kk
                    · obtain ⟨y, hy⟩ : ∃ y, (nx a)[j]? = some y := ⟨_, List.getElem?_eq_getElem (by omega)⟩
                      obtain ⟨q, rfl, fy⟩ := ints_at hia (j := j) (by rw [intsQ_length]; omega)
                      have hgy : (intsQ (nx a)).getD j 0 = (y : Int) := by simp [intsQ, List.getD, hy]
                      rw [hgy] at fy
                      have hym := List.mem_of_getElem? hy
                      have hyN := HNa.out y hym
                      have HYm := Lib.hid hym
                      have HTk : Hid ((nx a).take (j + 1) = (nx a).take j ++ [y]) := by
                        show _ = _
                        rw [List.take_add_one, hy]; rfl
                      have fd : T.cell? ⟨gd, y, none⟩ = some (.int .i64 (((d3.getD y 0 : Nat) : Int) - 1)) := hd.cell (j := y) (by rw [hra.len]; exact hyN)
                      have fz := blk_free hd.blk y
                      have hdy : d3[y]? = some (d3.getD y 0) := by
                        have := hra.len
                        simp [List.getD, List.getElem?_eq_getElem (show y < d3.length by omega)]
                      have HDy := Lib.hid hdy
                      have hqg := hag q rfl
                      have HOut := Lib.hid (out_any (cap := cb) (HBb.out T hd.bl) hbm (y : Int) (fr : Int))
                      have j0 : (0 : Int) ≤ (j : Int) := by omega
                      have j1 : (j : Int) < (kk : Int) := by omega
                      have y0 : (0 : Int) ≤ (y : Int) := by omega
                      have y1 : (y : Int) < (N : Int) := by omega
                      have HWj : Hid (wrap64 ((j : Int) + 1) = (j : Int) + 1) := by
                        show wrap64 ((j : Int) + 1) = (j : Int) + 1
                        exact Go.IntWalk.wrap64_in ((j : Int) + 1) (by omega)
                      have HPass : Hid (((∃ v : Nat, d3[y]? = some (v + 1)) ∨ obF ban fr y = true) → RinD N nx (obF ban fr) to_ gd k a (some q) w (.bool sb2) (.int .i64 ((j : Int) + 1)) T) := fun h =>
                        ⟨d3, j + 1, sb2, by rw [hK]; omega, rfl, by go_num, HD.out, by rw [HTk.out]; exact HRa.out.pass h, HDa.out, HI.out, HAg.out, HTp.out⟩
                      have HPut : Hid (d3[y]? = some 0 → obF ban fr y = false → RinD N nx (obF ban fr) to_ gd k a (some q) w (.bool true) (.int .i64 ((j : Int) + 1)) (T.setCell ⟨gd, y, none⟩ (.int .i64 ((k : Int) + 1)))) := fun h hb => by
                        have e0 : (Value.int .i64 ((k : Int) + 1)) = offV (k + 1 + 1) := by
                          unfold offV
                          congr 1
                          omega
                        rw [e0]
                        have hk : Kept (fun k => k = gd) T (T.setCell ⟨gd, y, none⟩ (offV (k + 1 + 1))) := (Kept.refl (fun k => k = gd) T).setCell (p := ⟨gd, y, none⟩) (.inl rfl) _
                        have hya : y ≠ a := fun e => by rw [e, HDa.out] at h; cases h
                        exact ⟨d3.set y (k + 1 + 1), j + 1, true, by rw [hK]; omega, rfl, by go_num, HD.out.set y (k + 1 + 1), by rw [HTk.out]; exact HRa.out.put (by omega) HDa.out HYm.out h hb, by rw [List.getElem?_set, if_neg hya]; exact HDa.out, HI.out.keptX hk (fun b e => by cases e; exact hqg), HAg.out, fun e => by cases e⟩
                      clear hgy hy hym hd hra hda hia hag hdy hqg HD HRa HDa HI HAg HTk HYm HTp htop
                      obtain ⟨vy, hvy⟩ : ∃ vy, vy = d3.getD y 0 := ⟨_, rfl⟩
                      rw [← hvy] at fd HDy
                      clear hvy
                      cases vy with
                      | succ vy =>
                        have ev : (((vy + 1 : Nat) : Int) - 1) = (vy : Int) := by omega
                        rw [ev] at fd
                        have e1 : decide ((vy : Int) < 0) = false := decide_eq_false (by omega)
                        have HF := Lib.hid (HPass.out (.inl ⟨vy, HDy.out⟩))
                        clear HPass HPut HOut fz ev HDy
                        go_wp2
                        go_roundw
                        case rel => (try rw [HWj.out]); exact HF.out
                        case measure => (try rw [HWj.out]); simp [intOf]; omega
                      | zero =>
                        replace fd : T.cell? ⟨gd, y, none⟩ = some (.int .i64 (-1)) := fd
                        cases hb : obF ban fr y with
                        | true =>
                          have HF := Lib.hid (HPass.out (.inr hb))
                          have HO2 : Hid (Calls Tryd.prog 58 #[.slice B ban.length cb, .int .i64 (y : Int), .int .i64 (fr : Int)] T fun e w' => e = .returned (.bool true) ∧ T = w') := by rw [← hb]; exact HOut.out
                          clear HPass HPut fz HOut hb HDy
                          go_wp2_with (go_at_call 58; (with_reducible refine HO2.out.mono ?_); rintro e w5 ⟨rfl, rfl⟩)
                          go_roundw
                          case rel => (try rw [HWj.out]); exact HF.out
                          case measure => (try rw [HWj.out]); simp [intOf]; omega
                        | false =>
                          have HF := Lib.hid (HPut.out HDy.out hb)
                          have HO2 : Hid (Calls Tryd.prog 58 #[.slice B ban.length cb, .int .i64 (y : Int), .int .i64 (fr : Int)] T fun e w' => e = .returned (.bool false) ∧ T = w') := by rw [← hb]; exact HOut.out
                          have hwk : IntKind.i64.wrap ((k : Int) + 1) = (k : Int) + 1 := IntWalk.i64_in _ (by omega)
                          clear HPass HPut HOut hb HDy
                          go_wp2_with (go_at_call 58; (with_reducible refine HO2.out.mono ?_); rintro e w5 ⟨rfl, rfl⟩)
                          go_roundw
                          case rel => (try rw [HWj.out]); exact HF.out
                          case measure => (try rw [HWj.out]); simp [intOf]; omega
                    · obtain rfl : kk = j := by omega
                      have HF : Hid (RmidD N nx (obF ban fr) to_ gd k w (.bool sb2) (.int .i64 ((a : Int) + 1)) T) := by
                        have h1 := HRa.out
                        rw [List.take_of_length_le (by rw [hK]; exact Nat.le_refl _)] at h1
                        exact ⟨d3, a + 1, sb2, hlt2, rfl, by go_num, HD.out, h1.next (fun _ y hy _ => hy), HTp.out⟩
                      clear hd hra hda hia hag HD HRa HDa HI HAg HTp htop
                      go_wp2
                      go_roundw
                      case rel => exact HF.out
                      case measure => simp [intOf]; omega
                · have e1 : ((((va : Nat) : Int) - 1) != (k : Int)) = true := by simp; omega
                  have HF : Hid (RmidD N nx (obF ban fr) to_ gd k w (.bool sb) (.int .i64 ((a : Int) + 1)) U) := ⟨d2, a + 1, sb, hlt2, rfl, by go_num, HD.out, HRa.out.next (fun h => by rw [HDa.out] at h; cases h; exact absurd rfl hvk), HTp.out⟩
                  clear hvk HDa
                  obtain ⟨z, hz⟩ : ∃ z, z = ((va : Nat) : Int) - 1 := ⟨_, rfl⟩
                  rw [← hz] at fa e1
                  clear hz
                  go_wp2
                  go_roundw
                  case rel => exact HF.out
                  case measure => simp [intOf]; omega
              · obtain rfl : a = N := by omega
                clear hd hra htop
                cases sb with
                | false =>
                  have HF := Lib.hid (HP.out gd d2 U HD.out (HYs.out d2 _ (HRa.out.level HbM.out hto).1 (fun n x _ hw => ((HRa.out.level HbM.out hto).1).stop (HTp.out rfl) HbM.out hw)))
                  clear HD HRa HTp HP HYs
                  go_wp2
                  exact HF.out
                | true =>
                  have HF : Hid (RoutD a nx (obF ban fr) to_ gd w (.int .i64 ((k : Int) + 1)) U) := by
                    obtain ⟨h1, h2⟩ := HRa.out.level HbM.out hto
                    exact ⟨d2, k + 1, by omega, by go_num, HD.out, h1, h2⟩
                  clear HD HRa HTp
                  go_wp2
                  go_roundw
                  case rel => exact HF.out
                  case measure => simp [intOf]; omega
          · obtain rfl : k = N := by omega
            have HF := Lib.hid (HP.out gd d V hd (HYs.out d _ hra (fun n x hn hw => hra.low n x (by omega) (by
              cases hw with
              | base => exact hto
              | step _ h2 _ => exact HbM.out _ _ h2) hw)))
            clear hd hra htop HP HYs
            go_wp2
            exact HF.out
end Go.Proofs.YtkedjnhidfnlkaaDoor
