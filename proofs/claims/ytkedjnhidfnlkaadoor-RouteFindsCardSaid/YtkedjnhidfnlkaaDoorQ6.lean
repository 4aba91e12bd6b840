/- Joined texts: Q4, Q5, Q6. -/
import Derived.Test.YtkedjnhidfnlkaaDoorQ3
import Derived.Test.YtkedjnhidfnlkaaDoorQPure3
import Derived.Test.YtkedjnhidfnlkaaDoorSt

/-
  The document's Around: its walk.
-/
namespace Go.Proofs.YtkedjnhidfnlkaaDoor
set_option maxRecDepth 100000
open Go Go.RowKit Rq

/-! Around, where there is nothing around -/
set_option maxHeartbeats 400000 in
theorem around_nil {bm gm cm R C : Nat} {ms : List UInt8} {w : World} {B : Option Addr} {n cb : Nat} {c far : Int} (hE : EM bm gm cm R C ms w) (hc : freeB ms c = false ∨ far < 0) :
    Calls Tryd.prog 23 #[.pointer (some ⟨bm, 0, none⟩), .int .i64 c, .slice B n cb, .int .i64 far] w fun e w' => e = .returned (.slice none 0 0) ∧ w = w' := by
  have HF : Hid (Calls Tryd.prog 27 #[.pointer (some ⟨bm, 0, none⟩), .int .i64 c] w fun e w' => e = .returned (.bool (freeB ms c)) ∧ w = w') := free_any bm gm cm ms c w hE.c2 (fun j hj => hE.mark j hj)
  clear hE
  cases hf : freeB ms c with
  | false =>
    rw [hf] at HF
    clear hc hf
    go_enter Tryd.func23, Tryd.ntmps23
    go_wp2
    go_step3
    go_wp2_with fail
    refine HF.out.mono ?_
    rintro e w' ⟨rfl, rfl⟩
    go_wp2
    try rw [Exit.noGoto_ret]
    go_ret
    exact ⟨rfl, rfl⟩
  | true =>
    rw [hf] at HF hc
    have h1 : far < 0 := by simpa using hc
    have hfar : decide (far < 0) = true := decide_eq_true h1
    clear hc hf
    go_enter Tryd.func23, Tryd.ntmps23
    go_wp2
    go_step3
    go_wp2_with fail
    refine HF.out.mono ?_
    rintro e w' ⟨rfl, rfl⟩
    go_wp2
    try rw [Exit.noGoto_ret]
    go_ret
    exact ⟨rfl, rfl⟩

/-! The document's out -/
def outB (l : List Int) (x fr : Int) : Bool := decide (x ∈ l) && (x != fr)

set_option maxHeartbeats 800000 in
theorem out_any {w : World} {A : Option Addr} {l : List Int} {cap : Nat} (hI : IntsAt w A l) (hl : l.length ≤ maxLen) (x fr : Int) :
    Calls Tryd.prog 58 #[.slice A l.length cap, .int .i64 x, .int .i64 fr] w fun e w' => e = .returned (.bool (outB l x fr)) ∧ w = w' := by
  have HI := Lib.hid hI
  unfold maxLen at hl
  generalize hm : l.length = m at *
  have HM := Lib.hid hm
  clear hm hI
  go_enter Tryd.func58, Tryd.ntmps58
  go_wp2
  go_loopw [7] (fun u wr => ∃ k : Nat, k ≤ m ∧ u = .int .i64 (k : Int) ∧ wr = w ∧ ∀ j, j < k → l.getD j 0 = x → x = fr) (fun u _ => m - (intOf u).toNat)
  case atStart => exact ⟨0, Nat.zero_le _, rfl, rfl, fun j hj => by omega⟩
  case round =>
    obtain ⟨k, hk, rfl, rfl, hno⟩ := hrel
    by_cases hlt : k < m
    · have hkl : k < l.length := by rw [HM.out]; exact hlt
      obtain ⟨a, rfl, _, fa⟩ := HI.out k hkl
      have k0 : (0 : Int) ≤ (k : Int) := by omega
      have k1 : (k : Int) < (m : Int) := by omega
      have hin : l.getD k 0 ∈ l := by
        have h0 : l.getD k 0 = l[k] := by simp [List.getD, hkl]
        rw [h0]; exact List.getElem_mem hkl
      have HNo : Hid ((l.getD k 0 = x → x = fr) → ∀ j, j < k + 1 → l.getD j 0 = x → x = fr) := fun h j hj => by
        by_cases e : j = k
        · subst e; exact h
        · exact hno j (by omega)
      have HYes : Hid (l.getD k 0 = x → x ≠ fr → outB l x fr = true) := fun h1 h2 => by
        unfold outB
        rw [← h1] at h2 ⊢
        simp only [Bool.and_eq_true, decide_eq_true_eq, bne_iff_ne, ne_eq]
        exact ⟨hin, h2⟩
      clear hno hin
      generalize l.getD k 0 = y at *
      by_cases e : y = x
      · have e1 : (y == x) = true := by simp [e]
        by_cases e2 : x = fr
        · have e3 : (x != fr) = false := by simp [e2]
          have HQ := Lib.hid (HNo.out (fun _ => e2))
          clear e e2 HYes
          go_wp2
          go_roundw
          case rel => exact ⟨k + 1, by omega, by go_num, trivial, HQ.out⟩
          case measure => simp [intOf]; omega
        · have e3 : (x != fr) = true := by simp [e2]
          have HQ : Hid (outB l x fr = true) := HYes.out e e2
          clear e e2 HNo
          go_wp2
          go_ret
          exact ⟨by rw [HQ.out]; rfl, rfl⟩
      · have e1 : (y == x) = false := by simp [e]
        have HQ := Lib.hid (HNo.out (fun h => absurd h e))
        clear e HYes
        go_wp2
        go_roundw
        case rel => exact ⟨k + 1, by omega, by go_num, trivial, HQ.out⟩
        case measure => simp [intOf]; omega
    · obtain rfl : k = m := by omega
      have HQ : Hid (outB l x fr = false) := by
        show outB l x fr = false
        rw [Bool.eq_false_iff]
        intro h
        unfold outB at h
        simp only [Bool.and_eq_true, decide_eq_true_eq, bne_iff_ne, ne_eq] at h
        obtain ⟨j, hj, e⟩ := List.getElem_of_mem h.1
        exact h.2 (hno j (by rw [← HM.out]; exact hj) (by rw [← e]; simp [List.getD, hj]))
      clear hno
      go_wp2
      go_ret
      exact ⟨by rw [HQ.out]; rfl, rfl⟩
end Go.Proofs.YtkedjnhidfnlkaaDoor

/-
  The document's Around: its walk.
-/
namespace Go.Proofs.YtkedjnhidfnlkaaDoor
set_option maxRecDepth 100000
open Go Go.RowKit Rq

def dz (d : List Nat) : Array Value := (d.map natV).toArray
theorem dz_made (n : Nat) : madeCells #[.int .i64 0] n = dz (List.replicate n 0) := by
  apply Array.toList_inj.1
  rw [toList_madeCells_one]
  simp [dz, natV]
theorem dz_set (d : List Nat) (i v : Nat) : (dz d).setIfInBounds i (natV v) = dz (d.set i v) := by
  unfold dz
  apply Array.toList_inj.1
  simp [List.map_set]
theorem dz_get {d : List Nat} {i : Nat} (h : i < d.length) : (dz d)[i]? = some (natV (d.getD i 0)) := by simp [dz, List.getD, h]
theorem makeInts_run (N : Nat) (hN : N ≤ 100000) (w : World) : (Instr.makeSlice 22 (.int .i64 (N : Int)) (.int .i64 (N : Int))).run Tryd.prog w = .ok (.slice (some ⟨w.heap.size, 0, none⟩) N N) (w.alloc (.cells (madeCells #[.int .i64 0] N) 3)) := by
  obtain ⟨i0, hi, hz0, hz1, hz2⟩ := info_parts Tryd.infoInt
  have := run_make (P := Tryd.prog) w 22 3 i0 (.int .i64 0) Tryd.underlying22 hi hz0 .i64 .i64 (N : Int) (N : Int) (by omega) (Int.le_refl _) (by rw [hz2]; omega) (by omega)
  simpa [hz1, Value.cells] using this

/-- The marks, in memory. -/
structure DI (gd : Nat) (d : List Nat) (w wr : World) : Prop where
  bl : Below w.heap.size w wr
  blk : wr.heap[gd]? = some (.cells (dz d) 3 (0, 0))
  lo : w.heap.size ≤ gd
theorem DI.below {gd : Nat} {d : List Nat} {w wr w2 : World} (h : DI gd d w wr) (hb : Below wr.heap.size wr w2) : DI gd d w w2 :=
  ⟨h.bl.trans (hb.mono h.bl.size), (hb.block gd (blk_lt h.blk)).trans h.blk, h.lo⟩
theorem DI.drewN {gd : Nat} {d : List Nat} {w wr : World} (h : DI gd d w wr) (n : Nat) : DI gd d w (wr.drewN n) := h.below (bel_drewN (Below.refl _ _) n)
theorem DI.set {gd : Nat} {d : List Nat} {w wr : World} (h : DI gd d w wr) (j v : Nat) : DI gd (d.set j v) w (wr.setCell ⟨gd, j, none⟩ (natV v)) := by
  refine ⟨h.bl.setCell (p := ⟨gd, j, none⟩) h.lo _, ?_, h.lo⟩
  rw [blk_set h.blk, dz_set]
theorem DI.cell {gd : Nat} {d : List Nat} {w wr : World} (h : DI gd d w wr) {j : Nat} (hj : j < d.length) : wr.cell? ⟨gd, j, none⟩ = some (natV (d.getD j 0)) := by
  rw [blk_cell h.blk, dz_get hj]

/-- What the document's Around tells. -/
def RAroundP (R C : Nat) (ms : List UInt8) (c far : Nat) (ban : List Int) (w : World) (e : Ending) (w' : World) : Prop :=
  ∃ (v : Value) (l : List Nat), e = .returned v ∧ Below w.heap.size w w' ∧ w'.ownsRow w.heap.size 3 1 v l.length (l.map natV) ∧ l.Pairwise (· < ·) ∧ ∀ x, x ∈ l ↔ ∃ n, n ≤ far ∧ Fw (outs R C ms) (banF ban) c n x

def RoutA (N : Nat) (nx : Nat → List Nat) (ban : Nat → Bool) (c far gd : Nat) (w : World) (u : Value) (wr : World) : Prop :=
  ∃ (d : List Nat) (k : Nat), 1 ≤ k ∧ k ≤ far + 1 ∧ k ≤ N + 1 ∧ u = .int .i64 (k : Int) ∧ DI gd d w wr ∧ Ra N nx ban c d k 0 [] ∧ ∀ x v : Nat, d[x]? = some v → v ≤ k
def RmidA (N : Nat) (nx : Nat → List Nat) (ban : Nat → Bool) (c gd k : Nat) (w : World) (u : Value) (wr : World) : Prop :=
  ∃ (d : List Nat) (a : Nat), a ≤ N ∧ u = .int .i64 (a : Int) ∧ DI gd d w wr ∧ Ra N nx ban c d k a []
def RinA (N : Nat) (nx : Nat → List Nat) (ban : Nat → Bool) (c gd k a : Nat) (A : Option Addr) (w : World) (u : Value) (wr : World) : Prop :=
  ∃ (d : List Nat) (j : Nat), j ≤ (nx a).length ∧ u = .int .i64 (j : Int) ∧ DI gd d w wr ∧ Ra N nx ban c d k a ((nx a).take j) ∧ d[a]? = some k ∧ IntsAt wr A (intsQ (nx a)) ∧ ∀ q, A = some q → q.block ≠ gd

set_option maxHeartbeats 4000000 in
theorem raround_any {b g cap c far : Nat} {Q : List ByteArray} {w : World} {B : Option Addr} {ban : List Int} {cb : Nat} (h : RefAt w b g cap Q) (hg : Pure.Good (lsts Q)) (hc : freeB (lsts Q).flatten (c : Int) = true) (hB : IntsAt w B ban) (hbm : ban.length ≤ maxLen) (hfm : (far : Int) ≤ 9223372036854775807) :
    Calls Tryd.prog 24 #[.pointer (some ⟨b, 0, none⟩), .int .i64 (c : Int), .slice B ban.length cb, .int .i64 (far : Int)] w (RAroundP (lsts Q).length (Pure.wid (lsts Q)) (lsts Q).flatten c far ban w) := by
  have hcN : c < (lsts Q).flatten.length := by have := free_range hc; omega
  have hsm := hg.small
  have HF : Hid (Calls Tryd.prog 22 #[.pointer (some ⟨b, 0, none⟩), .int .i64 (c : Int)] w fun e w' => e = .returned (.bool true) ∧ ∃ n, w' = w.drewN n) := by
    have := rfree_any (c : Int) h hg
    rw [hc] at this
    exact this
  have HR := Lib.hid h
  have HRr : Hid (∀ wr, Below w.heap.size w wr → RefAt wr b g cap Q) := fun wr hb => h.below hb (Nat.le_refl _)
  have HBb : Hid (∀ wr, Below w.heap.size w wr → IntsAt wr B ban) := fun wr hb => hB.below hb (Nat.le_refl _)
  have HC : Hid (∀ wr, RefAt wr b g cap Q → Calls Tryd.prog 57 #[.pointer (some ⟨b, 0, none⟩)] wr fun e w'' => e = .returned (.int .i64 ((lsts Q).flatten.length : Int)) ∧ ∃ n, w'' = wr.drewN n) := fun w' h => rcells_any h hg
  have HNx : Hid (∀ (a : Nat) wr, a < (lsts Q).flatten.length → RefAt wr b g cap Q → Calls Tryd.prog 51 #[.pointer (some ⟨b, 0, none⟩), .int .i64 (a : Int)] wr (ListPost wr (outs (lsts Q).length (Pure.wid (lsts Q)) (lsts Q).flatten a))) := fun a wr ha h => by
    have h1 := rnext_any (a : Int) h hg
    rw [next_eq hg.lo (good_area hg)] at h1
    have hnl : nextZ (lsts Q).length (Pure.wid (lsts Q)) (lsts Q).flatten (a : Int) = outs (lsts Q).length (Pure.wid (lsts Q)) (lsts Q).flatten a := by unfold nextZ; rw [if_pos (by omega)]; rfl
    rw [hnl] at h1
    exact h1
  have HbM : Hid (∀ x, ∀ y ∈ outs (lsts Q).length (Pure.wid (lsts Q)) (lsts Q).flatten x, y < (lsts Q).flatten.length) := fun x y hy => by have := outs_bd hy; rw [good_area hg] at this; exact this
  have HLk : Hid (∀ x, (outs (lsts Q).length (Pure.wid (lsts Q)) (lsts Q).flatten x).length ≤ 4) := fun x => outs_len _ _ _ x
  have HFm := Lib.hid hfm
  have hfar' : decide ((far : Int) < 0) = false := decide_eq_false (by omega)
  have hmk := makeInts_run (lsts Q).flatten.length (by omega)
  have HP : Hid (∀ e w', RAroundP (lsts Q).length (Pure.wid (lsts Q)) (lsts Q).flatten c far ban w e w' ↔ ∃ (v : Value) (l : List Nat), e = .returned v ∧ Below w.heap.size w w' ∧ w'.ownsRow w.heap.size 3 1 v l.length (l.map natV) ∧ l.Pairwise (· < ·) ∧ ∀ x, x ∈ l ↔ ∃ n, n ≤ far ∧ Fw (outs (lsts Q).length (Pure.wid (lsts Q)) (lsts Q).flatten) (banF ban) c n x) := fun e w' => Iff.rfl
  clear h hg hc hB hfm
  generalize RAroundP (lsts Q).length (Pure.wid (lsts Q)) (lsts Q).flatten c far ban w = P at *
  generalize outs (lsts Q).length (Pure.wid (lsts Q)) (lsts Q).flatten = nx at *
  generalize (lsts Q).flatten.length = N at *
  go_enter Tryd.func24, Tryd.ntmps24
  go_wp2_with fail
  refine HF.out.mono ?_
  rintro e w1 ⟨rfl, n1, hw1⟩
  have HB1 : Hid (Below w.heap.size w w1) := by rw [hw1]; exact bel_drewN (Below.refl _ _) n1
  clear hw1 HF
  go_wp2_with fail
  refine (HC.out w1 (HRr.out w1 HB1.out)).mono ?_
  rintro e w2 ⟨rfl, n2, hw2⟩
  have HB2 : Hid (Below w.heap.size w w2) := by rw [hw2]; exact bel_drewN HB1.out n2
  clear hw2 HB1
  obtain ⟨gd, hgd⟩ : ∃ gd, gd = w2.heap.size := ⟨_, rfl⟩
  have HD0 : Hid (DI gd (List.replicate N 0) w (w2.alloc (.cells (madeCells #[.int .i64 0] N) 3))) := by
    refine ⟨HB2.out.alloc HB2.out.size _, ?_, by rw [hgd]; exact HB2.out.size⟩
    rw [hgd, ← dz_made]
    exact heap_alloc_new w2 _
  have fc : (w2.alloc (.cells (madeCells #[.int .i64 0] N) 3)).cell? ⟨w2.heap.size, c, none⟩ = some (natV ((List.replicate N 0).getD c 0)) := by rw [← hgd]; exact HD0.out.cell (by simpa using hcN)
  have fz : (w2.alloc (.cells (madeCells #[.int .i64 0] N) 3)).frozen? ⟨w2.heap.size, c, none⟩ = false := by rw [← hgd]; exact blk_free HD0.out.blk c
  have c0 : (0 : Int) ≤ (c : Int) := by omega
  have c1 : (c : Int) < (N : Int) := by omega
  have HO : Hid (RoutA N nx (banF ban) c far gd w (.int .i64 1) (w2.alloc (.cells ((madeCells #[.int .i64 0] N).setIfInBounds c (.int .i64 1)) 3))) := by
    obtain ⟨h1, h2⟩ := Ra.start (nx := nx) (ban := banF ban) hcN
    refine ⟨_, 1, Nat.le_refl _, by omega, by omega, rfl, ⟨HB2.out.alloc HB2.out.size _, ?_, by rw [hgd]; exact HB2.out.size⟩, h1, h2⟩
    rw [hgd, ← dz_set, ← dz_made]
    exact heap_alloc_new w2 _
  clear HD0 HB2
  generalize (List.replicate N 0).getD c 0 = z at fc
  go_wp2
  rw [← hgd]
  clear fc fz hmk hgd
  generalize w2.alloc (.cells ((madeCells #[.int .i64 0] N).setIfInBounds c (.int .i64 1)) 3) = w3 at *
  go_loopw [11] (fun u wr => RoutA N nx (banF ban) c far gd w u wr) (fun u _ => far + 1 - (intOf u).toNat)
  case atStart => exact HO.out
  case round =>
    obtain ⟨d, k, hk1, hkf, hkN, rfl, hd, hra, htop⟩ := hrel
    clear HO
    by_cases hend : far < k ∨ N < k
    · have HAll := Lib.hid (hra.all htop HbM.out hcN hkf hend)
      have HLen := Lib.hid hra.len
      obtain ⟨f, HFf⟩ : ∃ f : Nat → Bool, Hid (∀ x, f x = decide (0 < d.getD x 0)) := ⟨fun x => decide (0 < d.getD x 0), fun _ => rfl⟩
      have HD := Lib.hid hd
      clear hd hra htop
      by_cases hfk : far < k
      · have q1 : decide ((k : Int) ≤ (far : Int)) = false := decide_eq_false (by omega)
        clear hend
        go_wp2
        go_loopw [15, 16] (fun v u wr2 => ∃ m : Nat, m ≤ N ∧ u = .int .i64 (m : Int) ∧ DI gd d w wr2 ∧ wr2.ownsRow w.heap.size 3 1 v ((List.range m).filter f).length (((List.range m).filter f).map natV) ∧ v.ownBlock ≠ some gd) (fun _ u _ => N - (intOf u).toNat)
        case atStart => exact ⟨0, Nat.zero_le _, rfl, HD.out, World.ownsRow_nil _ _ _ _, by simp [Value.ownBlock]⟩
        case round =>
          obtain ⟨m, hm, rfl, hd2, hown, hvg⟩ := hrel
          have HD2 := Lib.hid hd2
          have HOw := Lib.hid hown
          have HVg := Lib.hid hvg
          have hle : ((List.range m).filter f).length ≤ m := Nat.le_trans (List.length_filter_le _ _) (by simp)
          by_cases hlt : m < N
          · have fd : wr.cell? ⟨gd, m, none⟩ = some (.int .i64 ((d.getD m 0 : Nat) : Int)) := hd2.cell (j := m) (by rw [HLen.out]; exact hlt)
            have hfm := HFf.out m
            have m0 : (0 : Int) ≤ (m : Int) := by omega
            have m1 : (m : Int) < (N : Int) := by omega
            have hwl := hd2.bl.size
            have hgl := blk_lt hd2.blk
            clear hd2 hown hvg
            generalize d.getD m 0 = vm at *
            replace fd : wr.cell? ⟨gd, m, none⟩ = some (.int .i64 (vm : Int)) := fd
            cases hfv : f m with
            | false =>
              have hv0 : vm = 0 := by rw [hfv] at hfm; simpa using hfm.symm
              subst hv0
              replace fd : wr.cell? ⟨gd, m, none⟩ = some (.int .i64 0) := fd
              have hit : (List.range (m + 1)).filter f = (List.range m).filter f := by rw [List.range_succ, List.filter_append]; simp [hfv]
              have HF : Hid (DI gd d w wr ∧ wr.ownsRow w.heap.size 3 1 u15 ((List.range (m + 1)).filter f).length (((List.range (m + 1)).filter f).map natV) ∧ u15.ownBlock ≠ some gd) := ⟨HD2.out, by rw [hit]; exact HOw.out, HVg.out⟩
              clear hit hfm hfv
              go_wp2
              go_roundw
              case rel => exact ⟨m + 1, by omega, by go_num, HF.out⟩
              case measure => simp [intOf]; omega
            | true =>
              have hv0 : 0 < vm := by rw [hfv] at hfm; simpa using hfm.symm
              have p1 : decide (0 < (vm : Int)) = true := decide_eq_true (by omega)
              have p2 : decide (0 < vm) = true := decide_eq_true hv0
              have HIt : Hid ((List.range (m + 1)).filter f = (List.range m).filter f ++ [m]) := by show _ = _; rw [List.range_succ, List.filter_append]; simp [hfv]
              have HNe : Hid (∀ j u, [Value.int .i64 (m : Int)][j]? = some u → (wr.alloc (.cells #[.int .i64 (m : Int)] 3)).cell? (Addr.add ⟨wr.heap.size, 0, none⟩ j) = some u) := World.news_of_block (heap_alloc_new wr (.cells #[.int .i64 (m : Int)] 3))
              obtain ⟨i0, hi0, hz0, hz1, hz2⟩ := info_parts Tryd.infoInt
              clear hfm hfv
              go_wp2_with (at_builtin; refine wpList_append_lies _ rfl (.tmp 98) (.tmp 100) 22 rfl w.heap.size 3 i0 (.int .i64 0) 1 8 Tryd.underlying22 hi0 hz0 hz1 hz2 rfl (by decide) u15 ((List.range m).filter f).length (((List.range m).filter f).map natV) rfl (HOw.out.alloc _) ⟨wr.heap.size, 0, none⟩ 1 1 [.int .i64 (m : Int)] rfl rfl (by have := HNe.out; simpa using this) (by intro u hu; simp at hu; subst hu; rfl) (by decide) (by unfold maxLen; omega) (by omega) (by simp; omega) (wr.heap.size + 1) (by simp) ?_; intro g2 cap5 w5 ho5 hg5 hat5 hlt5)
              have HF : Hid (DI gd d w w5 ∧ w5.ownsRow w.heap.size 3 1 (.slice (some ⟨g2, 0, none⟩) (((List.range m).filter f).length + 1) cap5) ((List.range (m + 1)).filter f).length (((List.range (m + 1)).filter f).map natV) ∧ (Value.slice (some ⟨g2, 0, none⟩) (((List.range m).filter f).length + 1) cap5).ownBlock ≠ some gd) := by
                have hk : Kept (fun k => u15.ownBlock = some k) wr w5 := ((Kept.refl _ wr).alloc _).trans ((Kept.refl (fun k => u15.ownBlock = some k) (wr.alloc _)).grown hg5 (fun k h => .inl h)) (fun _ _ h => h)
                refine ⟨⟨(HD2.out.bl.alloc HD2.out.bl.size _).grown hg5 (by simp; omega) (fun j hj => (HOw.out.lt j hj).1), (hk.block gd hgl HVg.out).trans HD2.out.blk, HD2.out.lo⟩, ?_, ?_⟩
                · rw [HIt.out]; simpa [natV] using ho5
                · simp only [Value.ownBlock, ne_eq, Option.some.injEq]
                  rintro rfl
                  rcases hat5 with h5 | h5
                  · exact HVg.out h5
                  · omega
              clear ho5 hg5 hat5 hlt5
              go_wp2
              go_roundw
              case rel => exact ⟨m + 1, by omega, by go_num, HF.out⟩
              case measure => simp [intOf]; omega
          · obtain rfl : m = N := by omega
            have HF : Hid (P (.returned u15) wr) := by
              refine (HP.out _ _).2 ⟨_, _, rfl, hd2.bl, hown, List.Pairwise.filter _ List.pairwise_lt_range, fun x => ?_⟩
              rw [← HAll.out x, List.mem_filter, List.mem_range, HFf.out x]
              have hdl := HLen.out
              constructor
              · rintro ⟨h1, h2⟩
                have h2 : 0 < d.getD x 0 := by simpa using h2
                refine ⟨d.getD x 0 - 1, ?_⟩
                rw [List.getElem?_eq_getElem (by omega)]
                have h3 : d.getD x 0 = d[x] := by simp [List.getD, List.getElem?_eq_getElem (show x < d.length by omega)]
                rw [← h3]
                congr 1
                omega
              · rintro ⟨v, hv⟩
                have hx : x < d.length := by
                  rcases Nat.lt_or_ge x d.length with h1 | h1
                  · exact h1
                  · rw [List.getElem?_eq_none h1] at hv; cases hv
                refine ⟨by omega, ?_⟩
                simp [List.getD, hv]
            clear hd2 hown hvg HD2 HOw HVg
            go_wp2
            exact HF.out
      · have q1 : decide ((k : Int) ≤ (far : Int)) = true := decide_eq_true (by omega)
        have q2 : decide ((k : Int) ≤ (N : Int)) = false := decide_eq_false (by omega)
        have q3 : k ≤ far := by omega
        have q4 : ¬ k ≤ N := by omega
        clear hend
        go_wp2
        go_loopw [15, 16] (fun v u wr2 => ∃ m : Nat, m ≤ N ∧ u = .int .i64 (m : Int) ∧ DI gd d w wr2 ∧ wr2.ownsRow w.heap.size 3 1 v ((List.range m).filter f).length (((List.range m).filter f).map natV) ∧ v.ownBlock ≠ some gd) (fun _ u _ => N - (intOf u).toNat)
        case atStart => exact ⟨0, Nat.zero_le _, rfl, HD.out, World.ownsRow_nil _ _ _ _, by simp [Value.ownBlock]⟩
        case round =>
          obtain ⟨m, hm, rfl, hd2, hown, hvg⟩ := hrel
          have HD2 := Lib.hid hd2
          have HOw := Lib.hid hown
          have HVg := Lib.hid hvg
          have hle : ((List.range m).filter f).length ≤ m := Nat.le_trans (List.length_filter_le _ _) (by simp)
          by_cases hlt : m < N
          · have fd : wr.cell? ⟨gd, m, none⟩ = some (.int .i64 ((d.getD m 0 : Nat) : Int)) := hd2.cell (j := m) (by rw [HLen.out]; exact hlt)
            have hfm := HFf.out m
            have m0 : (0 : Int) ≤ (m : Int) := by omega
            have m1 : (m : Int) < (N : Int) := by omega
            have hwl := hd2.bl.size
            have hgl := blk_lt hd2.blk
            clear hd2 hown hvg
            generalize d.getD m 0 = vm at *
            replace fd : wr.cell? ⟨gd, m, none⟩ = some (.int .i64 (vm : Int)) := fd
            cases hfv : f m with
            | false =>
              have hv0 : vm = 0 := by rw [hfv] at hfm; simpa using hfm.symm
              subst hv0
              replace fd : wr.cell? ⟨gd, m, none⟩ = some (.int .i64 0) := fd
              have hit : (List.range (m + 1)).filter f = (List.range m).filter f := by rw [List.range_succ, List.filter_append]; simp [hfv]
              have HF : Hid (DI gd d w wr ∧ wr.ownsRow w.heap.size 3 1 u15 ((List.range (m + 1)).filter f).length (((List.range (m + 1)).filter f).map natV) ∧ u15.ownBlock ≠ some gd) := ⟨HD2.out, by rw [hit]; exact HOw.out, HVg.out⟩
              clear hit hfm hfv
              go_wp2
              go_roundw
              case rel => exact ⟨m + 1, by omega, by go_num, HF.out⟩
              case measure => simp [intOf]; omega
            | true =>
              have hv0 : 0 < vm := by rw [hfv] at hfm; simpa using hfm.symm
              have p1 : decide (0 < (vm : Int)) = true := decide_eq_true (by omega)
              have p2 : decide (0 < vm) = true := decide_eq_true hv0
              have HIt : Hid ((List.range (m + 1)).filter f = (List.range m).filter f ++ [m]) := by show _ = _; rw [List.range_succ, List.filter_append]; simp [hfv]
              have HNe : Hid (∀ j u, [Value.int .i64 (m : Int)][j]? = some u → (wr.alloc (.cells #[.int .i64 (m : Int)] 3)).cell? (Addr.add ⟨wr.heap.size, 0, none⟩ j) = some u) := World.news_of_block (heap_alloc_new wr (.cells #[.int .i64 (m : Int)] 3))
              obtain ⟨i0, hi0, hz0, hz1, hz2⟩ := info_parts Tryd.infoInt
              clear hfm hfv
              go_wp2_with (at_builtin; refine wpList_append_lies _ rfl (.tmp 98) (.tmp 100) 22 rfl w.heap.size 3 i0 (.int .i64 0) 1 8 Tryd.underlying22 hi0 hz0 hz1 hz2 rfl (by decide) u15 ((List.range m).filter f).length (((List.range m).filter f).map natV) rfl (HOw.out.alloc _) ⟨wr.heap.size, 0, none⟩ 1 1 [.int .i64 (m : Int)] rfl rfl (by have := HNe.out; simpa using this) (by intro u hu; simp at hu; subst hu; rfl) (by decide) (by unfold maxLen; omega) (by omega) (by simp; omega) (wr.heap.size + 1) (by simp) ?_; intro g2 cap5 w5 ho5 hg5 hat5 hlt5)
              have HF : Hid (DI gd d w w5 ∧ w5.ownsRow w.heap.size 3 1 (.slice (some ⟨g2, 0, none⟩) (((List.range m).filter f).length + 1) cap5) ((List.range (m + 1)).filter f).length (((List.range (m + 1)).filter f).map natV) ∧ (Value.slice (some ⟨g2, 0, none⟩) (((List.range m).filter f).length + 1) cap5).ownBlock ≠ some gd) := by
                have hk : Kept (fun k => u15.ownBlock = some k) wr w5 := ((Kept.refl _ wr).alloc _).trans ((Kept.refl (fun k => u15.ownBlock = some k) (wr.alloc _)).grown hg5 (fun k h => .inl h)) (fun _ _ h => h)
                refine ⟨⟨(HD2.out.bl.alloc HD2.out.bl.size _).grown hg5 (by simp; omega) (fun j hj => (HOw.out.lt j hj).1), (hk.block gd hgl HVg.out).trans HD2.out.blk, HD2.out.lo⟩, ?_, ?_⟩
                · rw [HIt.out]; simpa [natV] using ho5
                · simp only [Value.ownBlock, ne_eq, Option.some.injEq]
                  rintro rfl
                  rcases hat5 with h5 | h5
                  · exact HVg.out h5
                  · omega
              clear ho5 hg5 hat5 hlt5
              go_wp2
              go_roundw
              case rel => exact ⟨m + 1, by omega, by go_num, HF.out⟩
              case measure => simp [intOf]; omega
          · obtain rfl : m = N := by omega
            have HF : Hid (P (.returned u15) wr) := by
              refine (HP.out _ _).2 ⟨_, _, rfl, hd2.bl, hown, List.Pairwise.filter _ List.pairwise_lt_range, fun x => ?_⟩
              rw [← HAll.out x, List.mem_filter, List.mem_range, HFf.out x]
              have hdl := HLen.out
              constructor
              · rintro ⟨h1, h2⟩
                have h2 : 0 < d.getD x 0 := by simpa using h2
                refine ⟨d.getD x 0 - 1, ?_⟩
                rw [List.getElem?_eq_getElem (by omega)]
                have h3 : d.getD x 0 = d[x] := by simp [List.getD, List.getElem?_eq_getElem (show x < d.length by omega)]
                rw [← h3]
                congr 1
                omega
              · rintro ⟨v, hv⟩
                have hx : x < d.length := by
                  rcases Nat.lt_or_ge x d.length with h1 | h1
                  · exact h1
                  · rw [List.getElem?_eq_none h1] at hv; cases hv
                refine ⟨by omega, ?_⟩
                simp [List.getD, hv]
            clear hd2 hown hvg HD2 HOw HVg
            go_wp2
            exact HF.out
    · have q1 : decide ((k : Int) ≤ (far : Int)) = true := decide_eq_true (by omega)
      have q2 : decide ((k : Int) ≤ (N : Int)) = true := decide_eq_true (by omega)
      have q3 : k ≤ far := by omega
      have q4 : k ≤ N := by omega
      have HM0 : Hid (RmidA N nx (banF ban) c gd k w (.int .i64 0) wr) := ⟨d, 0, Nat.zero_le _, rfl, hd, hra⟩
      clear hd hra htop hend
      go_wp2
      go_loopw [12] (fun u wr => RmidA N nx (banF ban) c gd k w u wr) (fun u _ => N - (intOf u).toNat)
      case atStart => exact HM0.out
      case round =>
        obtain ⟨d2, a, haN, rfl, hd, hra⟩ := hrel
        clear HM0
        have HD := Lib.hid hd
        have HRa := Lib.hid hra
        by_cases hlt : a < N
        · have fa : wr.cell? ⟨gd, a, none⟩ = some (.int .i64 ((d2.getD a 0 : Nat) : Int)) := hd.cell (j := a) (by rw [hra.len]; exact hlt)
          have a0 : (0 : Int) ≤ (a : Int) := by omega
          have a1 : (a : Int) < (N : Int) := by omega
          have hda : d2[a]? = some (d2.getD a 0) := by
            have := hra.len
            simp [List.getD, List.getElem?_eq_getElem (show a < d2.length by omega)]
          have HDa := Lib.hid hda
          clear hd hra hda
          generalize d2.getD a 0 = va at *
          replace fa : wr.cell? ⟨gd, a, none⟩ = some (.int .i64 (va : Int)) := fa
          by_cases hva : va = k
          · subst hva
            have e1 : ((va : Int) != (va : Int)) = false := by simp
            have e2 : (va != va) = false := by simp
            have HW1 := Lib.hid (HNx.out a wr hlt (HRr.out wr HD.out.bl))
            have hwrl := HD.out.bl.size
            go_wp2_with (go_at_call 51; fail)
            refine HW1.out.mono ?_
            rintro e w4 ⟨v4, rfl, hrow, hbl4⟩
            have HD4 := Lib.hid (HD.out.below hbl4)
            obtain ⟨A, cp, rfl, hia, hav⟩ := row_ints hrow
            have HI0 : Hid (RinA N nx (banF ban) c gd va a A w (.int .i64 0) w4) := by
              refine ⟨d2, 0, Nat.zero_le _, rfl, HD4.out, HRa.out, HDa.out, hia, fun q eq => ?_⟩
              have h1 := (hrow.lt q.block (hav q eq)).1
              have h2 := blk_lt HD.out.blk
              omega
            have hLk := HLk.out a
            have HNa : Hid (∀ y ∈ nx a, y < N) := HbM.out a
            clear HW1 hrow hbl4 hia hav HD HRa HDa HD4 e1 e2 fa
            generalize hK : (nx a).length = kk at *
            go_wp2
            go_loopw [14] (fun u wr => RinA N nx (banF ban) c gd va a A w u wr) (fun u _ => kk - (intOf u).toNat)
            case atStart => exact HI0.out
            case round =>
              obtain ⟨d3, j, hj, rfl, hd, hra, hda, hia, hag⟩ := hrel
              clear HI0
              have HD := Lib.hid hd
              have HRa := Lib.hid hra
              have HDa := Lib.hid hda
              have HI := Lib.hid hia
              have HAg := Lib.hid hag
              by_cases hjl : j < kk
              · obtain ⟨y, hy⟩ : ∃ y, (nx a)[j]? = some y := ⟨_, List.getElem?_eq_getElem (by omega)⟩
                obtain ⟨q, rfl, fy⟩ := ints_at hia (j := j) (by rw [intsQ_length]; omega)
                have hgy : (intsQ (nx a)).getD j 0 = (y : Int) := by simp [intsQ, List.getD, hy]
                rw [hgy] at fy
                have hym := List.mem_of_getElem? hy
                have hyN := HNa.out y hym
                have HYm := Lib.hid hym
                have HTk : Hid ((nx a).take (j + 1) = (nx a).take j ++ [y]) := by
                  show _ = _
                  rw [List.take_add_one, hy]; rfl
                have fd : wr.cell? ⟨gd, y, none⟩ = some (.int .i64 ((d3.getD y 0 : Nat) : Int)) := hd.cell (j := y) (by rw [hra.len]; exact hyN)
                have fz := blk_free hd.blk y
                have hdy : d3[y]? = some (d3.getD y 0) := by
                  have := hra.len
                  simp [List.getD, List.getElem?_eq_getElem (show y < d3.length by omega)]
                have HDy := Lib.hid hdy
                have hqg := hag q rfl
                have HOut := Lib.hid (out_any (cap := cb) (HBb.out wr hd.bl) hbm (y : Int) (c : Int))
                have j0 : (0 : Int) ≤ (j : Int) := by omega
                have j1 : (j : Int) < (kk : Int) := by omega
                have y0 : (0 : Int) ≤ (y : Int) := by omega
                have y1 : (y : Int) < (N : Int) := by omega
                have HWj : Hid (wrap64 ((j : Int) + 1) = (j : Int) + 1) := by
                  show wrap64 ((j : Int) + 1) = (j : Int) + 1
                  exact Go.IntWalk.wrap64_in ((j : Int) + 1) (by omega)
                have HPass : Hid (((∃ v : Nat, d3[y]? = some (v + 1)) ∨ banF ban y = true) → RinA N nx (banF ban) c gd va a (some q) w (.int .i64 ((j : Int) + 1)) wr) := fun h =>
                  ⟨d3, j + 1, by rw [hK]; omega, by go_num, HD.out, by rw [HTk.out]; exact HRa.out.pass h, HDa.out, HI.out, HAg.out⟩
                have HPut : Hid (d3[y]? = some 0 → banF ban y = false → RinA N nx (banF ban) c gd va a (some q) w (.int .i64 ((j : Int) + 1)) (wr.setCell ⟨gd, y, none⟩ (.int .i64 ((va : Int) + 1)))) := fun h hb => by
                  have e0 : (Value.int .i64 ((va : Int) + 1)) = natV (va + 1) := by simp [natV]
                  rw [e0]
                  have hk : Kept (fun k => k = gd) wr (wr.setCell ⟨gd, y, none⟩ (natV (va + 1))) := (Kept.refl (fun k => k = gd) wr).setCell (p := ⟨gd, y, none⟩) (.inl rfl) _
                  have hya : y ≠ a := fun e => by rw [e, HDa.out] at h; cases h; omega
                  exact ⟨d3.set y (va + 1), j + 1, by rw [hK]; omega, by go_num, HD.out.set y (va + 1), by rw [HTk.out]; exact HRa.out.put hk1 HDa.out HYm.out h hb, by rw [List.getElem?_set, if_neg hya]; exact HDa.out, HI.out.keptX hk (fun b e => by cases e; exact hqg), HAg.out⟩
                have HBg := Lib.hid HRa.out.beg
                clear hgy hy hym hd hra hda hia hag hdy hqg HD HRa HDa HI HAg HTk HYm HNa
                generalize d3.getD y 0 = vy at *
                replace fd : wr.cell? ⟨gd, y, none⟩ = some (.int .i64 (vy : Int)) := fd
                cases vy with
                | succ vy =>
                  have e1 : (((vy + 1 : Nat) : Int) == 0) = false := by simp; omega
                  have HF := Lib.hid (HPass.out (.inl ⟨vy, HDy.out⟩))
                  generalize hvz : vy + 1 = vz at *
                  clear HPass HPut HOut fz hvz
                  go_wp2
                  go_roundw
                  case rel => (try rw [HWj.out]); exact HF.out
                  case measure => (try rw [HWj.out]); simp [intOf]; omega
                | zero =>
                  have hyc : y ≠ c := fun e => by
                    have h1 := HBg.out
                    rw [← e, HDy.out] at h1
                    cases h1
                  have hob : outB ban (y : Int) (c : Int) = banF ban y := by
                    have : ((y : Int) != (c : Int)) = true := by simp; omega
                    unfold outB banF
                    rw [this, Bool.and_true]
                  rw [hob] at HOut
                  replace fd : wr.cell? ⟨gd, y, none⟩ = some (.int .i64 0) := fd
                  clear hob hyc
                  cases hb : banF ban y with
                  | true =>
                    have HF := Lib.hid (HPass.out (.inr hb))
                    rw [hb] at HOut
                    clear HPass HPut fz
                    go_wp2_with (go_at_call 58; (with_reducible refine HOut.out.mono ?_); rintro e w5 ⟨rfl, rfl⟩)
                    go_roundw
                    case rel => (try rw [HWj.out]); exact HF.out
                    case measure => (try rw [HWj.out]); simp [intOf]; omega
                  | false =>
                    have HF := Lib.hid (HPut.out HDy.out hb)
                    rw [hb] at HOut
                    have hwk : IntKind.i64.wrap ((va : Int) + 1) = (va : Int) + 1 := IntWalk.i64_in _ (by omega)
                    clear HPass HPut
                    go_wp2_with (go_at_call 58; (with_reducible refine HOut.out.mono ?_); rintro e w5 ⟨rfl, rfl⟩)
                    go_roundw
                    case rel => (try rw [HWj.out]); exact HF.out
                    case measure => (try rw [HWj.out]); simp [intOf]; omega
              · obtain rfl : j = kk := by omega
                have HF : Hid (RmidA N nx (banF ban) c gd va w (.int .i64 ((a : Int) + 1)) wr) := by
                  have h1 := HRa.out
                  rw [List.take_of_length_le (by rw [hK]; exact Nat.le_refl _)] at h1
                  exact ⟨d3, a + 1, hlt, by go_num, HD.out, h1.next (fun _ y hy _ => hy)⟩
                clear hd hra hda hia hag HD HRa HDa HI HAg
                go_wp2
                go_roundw
                case rel => exact HF.out
                case measure => simp [intOf]; omega
          · have e1 : ((va : Int) != (k : Int)) = true := by simp; omega
            have e2 : (va != k) = true := by simp; omega
            have HF : Hid (RmidA N nx (banF ban) c gd k w (.int .i64 ((a : Int) + 1)) wr) := ⟨d2, a + 1, hlt, by go_num, HD.out, HRa.out.next (fun h => by rw [HDa.out] at h; cases h; exact absurd rfl hva)⟩
            clear hva HDa
            go_wp2
            go_roundw
            case rel => exact HF.out
            case measure => simp [intOf]; omega
        · obtain rfl : a = N := by omega
          have HF : Hid (RoutA a nx (banF ban) c far gd w (.int .i64 ((k : Int) + 1)) wr) := by
            obtain ⟨h1, h2⟩ := HRa.out.level HbM.out hcN
            exact ⟨d2, k + 1, by omega, by omega, by omega, by go_num, HD.out, h1, h2⟩
          clear hd hra HD HRa
          have HWk : Hid (wrap64 ((k : Int) + 1) = (k : Int) + 1) := by
            show wrap64 ((k : Int) + 1) = (k : Int) + 1
            exact Go.IntWalk.wrap64_in ((k : Int) + 1) (by omega)
          go_wp2
          go_roundw
          case rel => (try rw [HWk.out]); exact HF.out
          case measure => (try rw [HWk.out]); simp [intOf]; omega
end Go.Proofs.YtkedjnhidfnlkaaDoor

/-
  Both Arounds, and Check, on a pair of maps.
-/
namespace Go.Proofs.YtkedjnhidfnlkaaDoor
set_option maxRecDepth 100000
open Go Go.RowKit Rq

/-! The document's Around, where there is nothing around -/
set_option maxHeartbeats 400000 in
theorem raround_nil {b g cap : Nat} {Q : List ByteArray} {w : World} {B : Option Addr} {n cb : Nat} {c far : Int} (h : RefAt w b g cap Q) (hg : Pure.Good (lsts Q)) (hc : freeB (lsts Q).flatten c = false ∨ far < 0) :
    Calls Tryd.prog 24 #[.pointer (some ⟨b, 0, none⟩), .int .i64 c, .slice B n cb, .int .i64 far] w fun e w' => e = .returned (.slice none 0 0) ∧ Below w.heap.size w w' := by
  have HF : Hid (Calls Tryd.prog 22 #[.pointer (some ⟨b, 0, none⟩), .int .i64 c] w fun e w' => e = .returned (.bool (freeB (lsts Q).flatten c)) ∧ Below w.heap.size w w') := by
    refine (rfree_any c h hg).mono ?_
    rintro e w' ⟨rfl, m, rfl⟩
    exact ⟨rfl, bel_drewN (Below.refl _ _) m⟩
  clear h hg
  cases hf : freeB (lsts Q).flatten c with
  | false =>
    rw [hf] at HF
    clear hc hf
    go_enter Tryd.func24, Tryd.ntmps24
    go_wp2_with (with_reducible refine HF.out.mono ?_; rintro e w' ⟨rfl, hb⟩)
    go_ret
    exact ⟨rfl, hb⟩
  | true =>
    rw [hf] at HF hc
    have h1 : far < 0 := by simpa using hc
    have hfar : decide (far < 0) = true := decide_eq_true h1
    clear hc hf
    go_enter Tryd.func24, Tryd.ntmps24
    go_wp2_with (with_reducible refine HF.out.mono ?_; rintro e w' ⟨rfl, hb⟩)
    go_ret
    exact ⟨rfl, hb⟩

/-- What lies around. -/
def ArL (R C : Nat) (ms : List UInt8) (cell far : Int) (ban : List Int) (l : List Nat) : Prop :=
  (freeB ms cell = false ∨ far < 0 → l = []) ∧ (freeB ms cell = true → 0 ≤ far → l.Pairwise (· < ·) ∧ ∀ x, x ∈ l ↔ ∃ n, n ≤ far.toNat ∧ Fw (outs R C ms) (banF ban) cell.toNat n x)
theorem ArL.one {R C : Nat} {ms : List UInt8} {cell far : Int} {ban : List Int} {l m : List Nat} (h : ArL R C ms cell far ban l) (k : ArL R C ms cell far ban m) : l = m := by
  by_cases h1 : freeB ms cell = false ∨ far < 0
  · rw [h.1 h1, k.1 h1]
  · have h2 : freeB ms cell = true := by
      cases hf : freeB ms cell
      · exact absurd (.inl hf) h1
      · rfl
    have h3 : 0 ≤ far := by
      rcases Int.lt_or_le far 0 with h4 | h4
      · exact absurd (.inr h4) h1
      · exact h4
    obtain ⟨l1, l2⟩ := h.2 h2 h3
    obtain ⟨m1, m2⟩ := k.2 h2 h3
    exact rise_ext l1 m1 (fun x => (l2 x).trans (m2 x).symm)

section
variable {w0 w w' : World} {bm gm cm br gr cr : Nat} {Q : List ByteArray}

theorem St.emx (h : St w0 bm gm cm br gr cr Q w) (hx : EmX bm gm cm (lsts Q).length (Pure.wid (lsts Q)) (lsts Q).flatten w w') : St w0 bm gm cm br gr cr Q w' :=
  h.turned hx.em ⟨hx.kp.os, hx.kp.tape, hx.kp.output, hx.kp.size, fun i hi hr => hx.kp.block i hi (fun e => hr (by rw [e]))⟩

theorem st_check {A B : Option Addr} {path ban : List Int} {cap cb : Nat} (h : St w0 bm gm cm br gr cr Q w) (hA : IntsAt w0 A path) (hB : IntsAt w0 B ban) (hp : path.length ≤ cap) (hpm : path.length ≤ maxLen) (hbm : ban.length ≤ maxLen) :
    Calls Tryd.prog 20 #[.pointer (some ⟨bm, 0, none⟩), .slice A path.length cap, .slice B ban.length cb] w fun e w' => e = .returned (.int .i64 (checkZ (lsts Q).length (Pure.wid (lsts Q)) (lsts Q).flatten path ban)) ∧ St w0 bm gm cm br gr cr Q w' := by
  refine (check_any h.em (hA.below h.bl (Nat.le_refl _)) (hB.below h.bl (Nat.le_refl _)) hp hpm hbm (fun h0 a e => by
    obtain ⟨a', ea, h1, _⟩ := hA 0 h0
    cases ea.symm.trans e
    have := h.lo
    omega)).mono ?_
  rintro e w' ⟨rfl, hx⟩
  exact ⟨rfl, h.emx hx⟩

theorem st_around {B : Option Addr} {ban : List Int} {cb : Nat} {cell far : Int} (h : St w0 bm gm cm br gr cr Q w) (hB : IntsAt w0 B ban) (hbm : ban.length ≤ maxLen) (hfm : far ≤ 9223372036854775807) :
    Calls Tryd.prog 23 #[.pointer (some ⟨bm, 0, none⟩), .int .i64 cell, .slice B ban.length cb, .int .i64 far] w fun e w' => ∃ v l, e = .returned v ∧ St w0 bm gm cm br gr cr Q w' ∧ Lst w' v l ∧ ArL (lsts Q).length (Pure.wid (lsts Q)) (lsts Q).flatten cell far ban l ∧ l.length ≤ 100000 := by
  by_cases h1 : freeB (lsts Q).flatten cell = false ∨ far < 0
  · refine (around_nil h.em h1).mono ?_
    rintro e w' ⟨rfl, rfl⟩
    refine ⟨_, [], rfl, h, ⟨none, 0, rfl, fun j hj => by simp at hj⟩, ⟨fun _ => rfl, fun h2 h3 => ?_⟩, by simp⟩
    rcases h1 with h1 | h1
    · rw [h2] at h1; cases h1
    · omega
  · have h2 : freeB (lsts Q).flatten cell = true := by
      cases hf : freeB (lsts Q).flatten cell
      · exact absurd (.inl hf) h1
      · rfl
    have h3 : 0 ≤ far := by
      rcases Int.lt_or_le far 0 with h4 | h4
      · exact absurd (.inr h4) h1
      · exact h4
    obtain ⟨h4, h5⟩ := free_range h2
    obtain ⟨c, rfl⟩ := Int.eq_ofNat_of_zero_le h4
    obtain ⟨f, rfl⟩ := Int.eq_ofNat_of_zero_le h3
    have hN := good_pos h.good
    refine (around_any h.em hN h2 (by omega) (hB.below h.bl (Nat.le_refl _)) hbm hfm).mono ?_
    rintro e w' ⟨v, l, rfl, hx, ho, hr, hm⟩
    refine ⟨v, l, rfl, h.emx hx, lst_of ho, ⟨fun h6 => absurd h6 h1, fun _ _ => ⟨hr, fun x => ?_⟩⟩, ?_⟩
    · simpa using hm x
    · have h7 := nodup_lt (l := l) (hr.imp (fun h => Nat.ne_of_lt h)) (n := (lsts Q).flatten.length) (fun x hx' => by
        obtain ⟨n, _, hw⟩ := (hm x).1 hx'
        cases hw with
        | base => omega
        | step _ h8 _ => have := outs_bd h8; rw [good_area h.good] at this; exact this)
      have := h.good.small
      omega

theorem st_raround {B : Option Addr} {ban : List Int} {cb : Nat} {cell far : Int} (h : St w0 bm gm cm br gr cr Q w) (hB : IntsAt w0 B ban) (hbm : ban.length ≤ maxLen) (hfm : far ≤ 9223372036854775807) :
    Calls Tryd.prog 24 #[.pointer (some ⟨br, 0, none⟩), .int .i64 cell, .slice B ban.length cb, .int .i64 far] w fun e w' => ∃ v l, e = .returned v ∧ St w0 bm gm cm br gr cr Q w' ∧ Below w.heap.size w w' ∧ Lst w' v l ∧ ArL (lsts Q).length (Pure.wid (lsts Q)) (lsts Q).flatten cell far ban l := by
  by_cases h1 : freeB (lsts Q).flatten cell = false ∨ far < 0
  · refine (raround_nil h.rf h.good h1).mono ?_
    rintro e w' ⟨rfl, hb⟩
    refine ⟨_, [], rfl, h.below hb, hb, ⟨none, 0, rfl, fun j hj => by simp at hj⟩, ⟨fun _ => rfl, fun h2 h3 => ?_⟩⟩
    rcases h1 with h1 | h1
    · rw [h2] at h1; cases h1
    · omega
  · have h2 : freeB (lsts Q).flatten cell = true := by
      cases hf : freeB (lsts Q).flatten cell
      · exact absurd (.inl hf) h1
      · rfl
    have h3 : 0 ≤ far := by
      rcases Int.lt_or_le far 0 with h4 | h4
      · exact absurd (.inr h4) h1
      · exact h4
    obtain ⟨h4, h5⟩ := free_range h2
    obtain ⟨c, rfl⟩ := Int.eq_ofNat_of_zero_le h4
    obtain ⟨f, rfl⟩ := Int.eq_ofNat_of_zero_le h3
    refine (raround_any h.rf h.good h2 (hB.below h.bl (Nat.le_refl _)) hbm hfm).mono ?_
    rintro e w' ⟨v, l, rfl, hb, ho, hr, hm⟩
    refine ⟨v, l, rfl, h.below hb, hb, lst_of ho, ⟨fun h6 => absurd h6 h1, fun _ _ => ⟨hr, fun x => ?_⟩⟩⟩
    simpa using hm x
end
end Go.Proofs.YtkedjnhidfnlkaaDoor
