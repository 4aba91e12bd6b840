/-
  The document's Load.
-/
import Derived.Test.YtijhkjegpcmjoaaCm1
import Derived.Test.YtijhkjegpcmjoaaCmz
import Derived.StillTailTactics
namespace Go.Proofs.Ytijhkjegpcmjoaa
set_option maxRecDepth 100000
set_option linter.unusedSimpArgs false
open Go Go.RowKit Cl

theorem known_any (V : World) (c : Int) : Calls Try.prog 30 #[.int .i64 c] V fun e w' => e = .returned (.bool (isC c)) ∧ w' = V := by
  by_cases h0 : 0 ≤ c
  · by_cases h1 : c < 1024
    · have e : isC c = true := by unfold isC; rw [decide_eq_true h0, decide_eq_true h1]; rfl
      rw [e]
      clear e
      go_enter Try.func30, Try.ntmps30
      go_wp2
      go_ret
      exact ⟨rfl, rfl⟩
    · have e : isC c = false := by unfold isC; rw [decide_eq_false h1, Bool.and_false]
      rw [e]
      clear e
      go_enter Try.func30, Try.ntmps30
      go_wp2
      go_ret
      exact ⟨rfl, rfl⟩
  · have e : isC c = false := by unfold isC; rw [decide_eq_false h0, Bool.false_and]
    rw [e]
    clear e
    go_enter Try.func30, Try.ntmps30
    go_wp2
    go_ret
    exact ⟨rfl, rfl⟩
theorem has_ins {t : List Cm} (hr : Ris t) {x : Cm} (hn : has t x.c = false) (n : Int) : has (ins t x) n = if n = x.c then true else has t n := by
  have hri := hr.ins (x := x) (not_has hr hn)
  rw [Bool.eq_iff_iff]
  by_cases e : n = x.c
  · rw [if_pos e, has_iff hri]
    exact ⟨fun _ => rfl, fun _ => ⟨x, mem_ins.2 (.inl rfl), e.symm⟩⟩
  · rw [if_neg e, has_iff hri, has_iff hr]
    constructor
    · rintro ⟨y, hy, h⟩
      rcases mem_ins.1 hy with rfl | hy
      · exact absurd h.symm e
      · exact ⟨y, hy, h⟩
    · rintro ⟨y, hy, h⟩
      exact ⟨y, mem_ins.2 (.inr hy), h⟩
theorem at_ins {t : List Cm} (hr : Ris t) {x : Cm} (hn : has t x.c = false) {n : Int} (hh : has (ins t x) n = true) : (at_ (ins t x) n).g = if n = x.c then x.g else (at_ t n).g := by
  have hri := hr.ins (x := x) (not_has hr hn)
  have hm := at_mem hh
  have hac := (has_lt hh).2
  by_cases e : n = x.c
  · rw [if_pos e]
    have := (idx_mem hri (mem_ins.2 (.inl rfl) : x ∈ ins t x)).2
    rw [e, this]
  · rw [if_neg e]
    rcases mem_ins.1 hm with h | h
    · rw [h] at hac; exact absurd hac.symm e
    · have := (idx_mem hr h).2
      rw [hac] at this
      rw [this]
/-- A cell comes in: two stores. -/
theorem RfAt.put {w : World} {b : Nat} {t : List Cm} (h : RfAt w b t) (hr : Ris t) {n : Nat} (hn : n < 1024) {g : Int} (hh : has t (n : Int) = false) :
    RfAt ((w.setCell ⟨b, n, none⟩ (.bool true)).drew.setCell ⟨b, 1024 + n, none⟩ (.int .u32 g)) b (ins t ⟨n, g⟩) := by
  obtain ⟨cs, h1, h2, h3⟩ := h
  have e1 := blk_set h1 n (.bool true)
  have e2 : ((w.setCell ⟨b, n, none⟩ (.bool true)).drew.setCell ⟨b, 1024 + n, none⟩ (.int .u32 g)).heap[b]? = _ := blk_set (w := (w.setCell ⟨b, n, none⟩ (.bool true)).drew) e1 (1024 + n) (.int .u32 g)
  refine ⟨_, e2, by simpa using h2, fun j hj => ?_⟩
  obtain ⟨q1, g', q2, q3⟩ := h3 j hj
  have hins := has_ins hr (x := ⟨n, g⟩) hh (j : Int)
  simp only at hins
  by_cases e : n = j
  · subst e
    rw [if_pos rfl] at hins
    refine ⟨?_, g, ?_, fun h9 => ?_⟩
    · rw [hins]; simp [Array.getElem?_setIfInBounds]; omega
    · simp [Array.getElem?_setIfInBounds]; omega
    · rw [at_ins hr hh h9, if_pos rfl]
  · have ne : ¬ (j : Int) = (n : Int) := by omega
    rw [if_neg ne] at hins
    refine ⟨?_, g', ?_, fun h9 => ?_⟩
    · rw [hins, ← q1]; simp [Array.getElem?_setIfInBounds]
      rw [if_neg (by omega), if_neg (by omega)]
    · rw [← q2]; simp [Array.getElem?_setIfInBounds]
      rw [if_neg (by omega), if_neg (by omega)]
    · rw [at_ins hr hh h9, if_neg ne]
      rw [hins] at h9
      exact q3 h9
structure RdI (w : World) (l : List Rc) (b : Nat) (j : Nat) (y : TS) (V : World) : Prop where
  st : tdF (l.take j) = some y
  rf : RfAt V b y.t
  hb : w.heap.size ≤ b
  bl : Below w.heap.size w V
theorem RdI.below {w V V' : World} {l : List Rc} {b j : Nat} {y : TS} (h : RdI w l b j y V) (hb : Below V.heap.size V V') : RdI w l b j y V' := ⟨h.st, h.rf.below hb, h.hb, h.bl.trans (hb.mono h.bl.size)⟩
/-- What is known of all that was read. -/
theorem td_facts {l : List Rc} (hg : ∀ r ∈ l, 0 ≤ g4 r.d ∧ g4 r.d < 4294967296) {j : Nat} (hj : j ≤ l.length) {y : TS} (h : tdF (l.take j) = some y) : Okr y.t ∧ (∀ z ∈ y.t, z.c ∈ y.m) ∧ ∀ n : Int, n ∈ y.m ↔ ∃ r ∈ l.take j, r.k = 2 ∧ r.n = n := by
  rcases ldF_tdF hg j hj with ⟨_, h2⟩ | ⟨x, y', _, h2, hc⟩
  · rw [h] at h2; cases h2
  · rw [h] at h2
    cases h2
    exact ⟨hc.ris, hc.tm, hc.mem⟩
/-- What the document's Load answers, in memory. -/
def RdQ (w : World) (l : List Rc) (e : Ending) (w' : World) : Prop :=
  ∃ p, e = .returned (.tuple #[.pointer p, .int .i64 (tdR l).1]) ∧ ((tdR l).1 = 0 → ∃ b, p = some ⟨b, 0, none⟩ ∧ RfAt w' b (tdR l).2) ∧ Below w.heap.size w w'
set_option maxHeartbeats 8000000 in
theorem rload_any {w : World} {A : Option Addr} {l : List Rc} {cap : Nat} (h : RsAt w A l) (hl : l.length ≤ 100) :
    Calls Try.prog 25 #[.slice A l.length cap] w (RdQ w l) := by
  have hz := Try.zero2048
  have hgr : ∀ r ∈ l, 0 ≤ g4 r.d ∧ g4 r.d < 4294967296 := by
    intro r hr
    obtain ⟨j, hj, rfl⟩ := List.getElem_of_mem hr
    obtain ⟨_, _, _, q⟩ := h j hj
    have := g4_in q
    rwa [show l.getD j default = l[j] by simp [List.getD, hj]] at this
  have HGr := Lib.hid hgr
  obtain ⟨b, hb⟩ : ∃ b, b = w.heap.size := ⟨_, rfl⟩
  have h0 : RdI w l b 0 ⟨[], []⟩ (w.alloc (.cells f2048 34)) := ⟨by simp [tdF], by rw [hb]; exact RfAt.fresh w, by omega, alloc_below w _⟩
  obtain ⟨W0, hW0⟩ : ∃ W0, w.alloc (.cells f2048 34) = W0 := ⟨_, rfl⟩
  rw [hW0] at h0
  have H0 := Lib.hid h0
  have HA := Lib.hid h
  clear h h0 hgr
  obtain ⟨N, hN⟩ : ∃ N, N = l.length := ⟨_, rfl⟩
  have HN := Lib.hid hN
  rw [← hN] at hl ⊢
  clear hN
  obtain ⟨Q, hQ⟩ : ∃ Q : Ending → World → Prop, Q = RdQ w l := ⟨_, rfl⟩
  have HQn : Hid (∀ w', tdF l = none → Below w.heap.size w w' → Q (.returned (.tuple #[.pointer none, .int .i64 130])) w') := by
    rw [hQ]
    intro w' h1 h2
    have e : tdR l = (130, []) := by unfold tdR; rw [h1]
    exact ⟨none, by rw [e], fun h => by rw [e] at h; exact absurd h (by decide), h2⟩
  have HQe : Hid (∀ y w', tdF l = some y → 16 < y.t.length → Below w.heap.size w w' → Q (.returned (.tuple #[.pointer none, .int .i64 151])) w') := by
    rw [hQ]
    intro y w' h1 h3 h2
    have e : tdR l = (151, []) := by unfold tdR; rw [h1]; show (if y.t.length ≤ 16 then _ else _) = _; rw [if_neg (by omega)]
    exact ⟨none, by rw [e], fun h => by rw [e] at h; exact absurd h (by decide), h2⟩
  have HQs : Hid (∀ y w', tdF l = some y → ¬ 16 < y.t.length → RfAt w' b y.t → Below w.heap.size w w' → Q (.returned (.tuple #[.pointer (some ⟨b, 0, none⟩), .int .i64 0])) w') := by
    rw [hQ]
    intro y w' h1 h3 h4 h2
    have e : tdR l = (0, y.t) := by unfold tdR; rw [h1]; show (if y.t.length ≤ 16 then _ else _) = _; rw [if_pos (by omega)]
    exact ⟨_, by rw [e], fun _ => ⟨b, rfl, by rw [e]; exact h4⟩, h2⟩
  rw [← hQ]
  clear hQ
  go_enter Try.func25, Try.ntmps25
  go_upto_region 3 with (fail)
  (try rw [hW0])
  rw [← hb]
  clear hW0 hz hb
  go_wp2_with fail
  go_loopw [6, 5] (fun u v wr => ∃ (j : Nat) (y : TS), j ≤ N ∧ u = .int .i64 (j : Int) ∧ v = .int .i64 (y.t.length : Int) ∧ y.t.length ≤ j ∧ RdI w l b j y wr) (fun u _ _ => N - (intOf u).toNat)
  case atStart => exact ⟨0, _, Nat.zero_le _, rfl, rfl, Nat.zero_le _, H0.out⟩
  case round =>
    rename World => V
    obtain ⟨j, y, hj, rfl, rfl, hyj, hI⟩ := hrel
    by_cases hlt : j < N
    · have d0 : decide ((j : Int) < (N : Int)) = true := by simp; omega
      have hjl : j < l.length := by rw [← HN.out]; exact hlt
      obtain ⟨a, rfl, ⟨z0, z1, z2⟩, hD⟩ := (HA.out.below hI.bl) j hjl
      have ew : IntKind.i64.wrap ((j : Int) + 1) = (j : Int) + 1 := IntWalk.i64_in _ (by omega)
      have j0 : (0 : Int) ≤ (j : Int) := by omega
      have j1 : (j : Int) < (N : Int) := by omega
      have HBad := Lib.hid (tdF_bad hjl hI.st)
      have HStep : Hid (∀ y', td1 y (l.getD j default) = some y' → tdF (l.take (j + 1)) = some y') := fun y' => tdF_step hjl hI.st
      obtain ⟨hokr, htm, hmem⟩ := td_facts HGr.out (j := j) (by omega) hI.st
      have HOkr := Lib.hid hokr
      have HTm := Lib.hid htm
      have HMem : Hid (∀ n : Int, n ∈ y.m ↔ ∃ k, k < j ∧ (l.getD k default).k = 2 ∧ (l.getD k default).n = n) := by
        intro n
        rw [hmem]
        constructor
        · rintro ⟨r, hr, h1, h2⟩
          obtain ⟨k, hk, rfl⟩ := List.mem_take_iff_getElem.1 hr
          refine ⟨k, by omega, ?_⟩
          rw [show l.getD k default = l[k] by simp [List.getD, show k < l.length by omega]]
          exact ⟨h1, h2⟩
        · rintro ⟨k, hk, h1, h2⟩
          rw [show l.getD k default = l[k] by simp [List.getD, show k < l.length by omega]] at h1 h2
          exact ⟨_, List.mem_take_iff_getElem.2 ⟨k, by omega, rfl⟩, h1, h2⟩
      have HRs : Hid (∀ V k, Below w.heap.size w V → k < N → V.cell? (a.add (k * 3)) = some (.int .i64 (l.getD k default).k) ∧ V.cell? ⟨(a.add (k * 3)).block, (a.add (k * 3)).off + 1, none⟩ = some (.int .i64 (l.getD k default).n)) := by
        intro V k hV hk
        obtain ⟨a', e, ⟨q0, q1, _⟩, _⟩ := (HA.out.below hV) k (by rw [← HN.out]; exact hk)
        cases e
        exact ⟨q0, q1⟩
      have HDx : Hid (∀ V, Below w.heap.size w V → DOk V (l.getD j default)) := by
        intro V hV
        obtain ⟨_, _, _, q⟩ := (HA.out.below hV) j hjl
        exact q
      generalize hr : l.getD j default = r at z0 z1 z2 hD HBad HStep HDx
      obtain ⟨o, ho⟩ : ∃ o : Obj, o = .cells #[.int .i64 r.k, .int .i64 r.n, .slice r.A r.d.length r.cap] 49 := ⟨_, rfl⟩
      have jb := World.alloc_heap_new V o
      have hIa := hI.below (alloc_below V o)
      have hn8 : V.heap.size ≠ b ∧ w.heap.size ≤ V.heap.size := by have := hI.rf.lt; have := hI.bl.size; omega
      obtain ⟨Va, hVa⟩ : ∃ Va, V.alloc o = Va := ⟨_, rfl⟩
      rw [hVa] at jb
      rw [hVa] at hIa
      have y0 : Va.cell? ⟨V.heap.size, 0, none⟩ = some (.int .i64 r.k) := by rw [ho] at jb; rw [blk_cell jb]; rfl
      have y1 : Va.cell? ⟨V.heap.size, 1, none⟩ = some (.int .i64 r.n) := by rw [ho] at jb; rw [blk_cell jb]; rfl
      have y2 : Va.cell? ⟨V.heap.size, 2, none⟩ = some (.slice r.A r.d.length r.cap) := by rw [ho] at jb; rw [blk_cell jb]; rfl
      have HJb := Lib.hid jb
      rw [ho] at hVa HJb
      have HIa := Lib.hid hIa
      clear jb hI hD hIa ho o hokr htm hmem hr
      go_upto_if 24 with (fail)
      clear hVa z0 z1 z2
      generalize V.heap.size = t8 at *
      have HKn : Hid (∀ V, Calls Try.prog 30 #[.int .i64 r.n] V fun e w' => e = .returned (.bool (isC r.n)) ∧ w' = V) := fun V => known_any V r.n
      by_cases hk : r.k = 2
      · have d1 : (r.k != 2) = false := by simp [hk]
        have HL1 : Hid (∀ y', recOk r = true → r.n ∉ y.m → updT y r = y' → tdF (l.take (j + 1)) = some y') := by
          intro y' h1 h2 h3
          refine HStep.out y' ?_
          unfold td1
          rw [if_neg (by simpa using hk), if_pos (by rw [h1, decide_eq_false h2]; rfl), h3]
        have HB1 : Hid ((recOk r && !decide (r.n ∈ y.m)) = false → tdF l = none) := by
          intro h1
          refine HBad.out ?_
          unfold td1
          rw [if_neg (by simpa using hk), if_neg (by rw [h1]; decide)]
        clear HBad HStep hk
        cases hrec : recOk r with
        | false =>
          have HF := Lib.hid (HQn.out Va (HB1.out (by rw [hrec]; rfl)) HIa.out.bl)
          have hrc : isC r.n = false ∨ (isC r.n = true ∧ r.d.length ≠ 0 ∧ r.d.length ≠ 4) := by
            unfold recOk at hrec
            cases hi : isC r.n with
            | false => exact .inl rfl
            | true =>
              rw [hi] at hrec
              rw [Bool.true_and, Bool.or_eq_false_iff, decide_eq_false_iff_not, decide_eq_false_iff_not] at hrec
              exact .inr ⟨rfl, hrec.1, hrec.2⟩
          clear HB1 HL1 hrec
          rcases hrc with hi | ⟨hi, h0, h4⟩
          · rw [hi] at HKn
            clear hi
            go_wp2_with (go_at_call 30; refine (HKn.out _).mono ?_; rintro e w9 ⟨rfl, rfl⟩)
            first | exact HF.out | (go_ret2; exact HF.out)
          · rw [hi] at HKn
            have d2 : ((r.d.length : Int) != 0) = true := by simp only [bne_iff_ne, ne_eq]; omega
            have d3 : ((r.d.length : Int) != 4) = true := by simp only [bne_iff_ne, ne_eq]; omega
            clear hi h0 h4
            generalize r.d.length = L at *
            go_wp2_with (go_at_call 30; refine (HKn.out _).mono ?_; rintro e w9 ⟨rfl, rfl⟩)
            first | exact HF.out | (go_ret2; exact HF.out)
        | true =>
          have hn0 : ∃ n0 : Nat, n0 < 1024 ∧ r.n = (n0 : Int) := by
            have h1 : isC r.n = true := by unfold recOk at hrec; rw [Bool.and_eq_true] at hrec; exact hrec.1
            have h1 := isC_in h1
            obtain ⟨n0, e⟩ := Int.eq_ofNat_of_zero_le h1.1
            exact ⟨n0, by omega, e⟩
          have hlen : r.d.length = 0 ∨ r.d.length = 4 := by
            unfold recOk at hrec
            simp only [Bool.and_eq_true, Bool.or_eq_true, decide_eq_true_eq] at hrec
            exact hrec.2
          have hisC : isC r.n = true := by unfold recOk at hrec; rw [Bool.and_eq_true] at hrec; exact hrec.1
          rw [hisC] at HKn
          clear hisC
          obtain ⟨n0, hn1, hnr⟩ := hn0
          have HLen := Lib.hid hlen
          have HHn : Hid (r.n ∈ y.m → tdF l = none) := fun hm => HB1.out (by rw [hrec, decide_eq_true hm]; rfl)
          have HL2 : Hid (∀ y', r.n ∉ y.m → updT y r = y' → tdF (l.take (j + 1)) = some y') := fun y' => HL1.out y' hrec
          have HNr := Lib.hid hnr
          clear HB1 HL1 hrec hlen hnr
          go_upto_region 9 with (go_at_call 30; refine (HKn.out _).mono ?_; rintro e w9 ⟨rfl, rfl⟩)
          rename World => Va
          go_cut [41] (fun v wx => v = .bool false ∧ wx = Va)
          case first =>
            rcases HLen.out with h0 | h4
            · have d2 : ((r.d.length : Int) != 0) = false := by rw [h0]; rfl
              clear h0
              generalize r.d.length = L at *
              go_wp2
              go_meet
              exact ⟨rfl, rfl⟩
            · have d2 : ((r.d.length : Int) != 0) = true := by rw [h4]; rfl
              have d3 : ((r.d.length : Int) != 4) = false := by rw [h4]; rfl
              clear h4
              generalize r.d.length = L at *
              go_wp2
              go_meet
              exact ⟨rfl, rfl⟩
          case rest =>
            obtain ⟨rfl, rfl⟩ := hcut
            rename World => Va
            go_wp2_with fail
            have HCel : Hid (∀ q, (Va.drewN q).cell? ⟨t8, 1, none⟩ = some (.int .i64 r.n)) := fun q => y1
            have HIq : Hid (∀ q, RdI w l b j y (Va.drewN q)) := fun q => ⟨HIa.out.st, HIa.out.rf, HIa.out.hb, bel_drewN HIa.out.bl q⟩
            have HY2 : Hid (∀ V2 : World, V2.heap[t8]? = Va.heap[t8]? → V2.cell? ⟨t8, 1, none⟩ = some (.int .i64 r.n) ∧ V2.cell? ⟨t8, 2, none⟩ = some (.slice r.A r.d.length r.cap)) := by
              intro V2 h2
              have := h2.trans HJb.out
              exact ⟨by rw [blk_cell this]; rfl, by rw [blk_cell this]; rfl⟩
            have hs8 : t8 < Va.heap.size := blk_lt HJb.out
            clear y0 y1 y2 HIa HJb HKn
            go_loopw [9] (fun u wr => ∃ k : Nat, k ≤ j ∧ u = .int .i64 (k : Int) ∧ (∀ k', k' < k → ¬ ((l.getD k' default).k = 2 ∧ (l.getD k' default).n = r.n)) ∧ ∃ q, wr = Va.drewN q) (fun u _ => j - (intOf u).toNat)
            case atStart => exact ⟨0, Nat.zero_le _, rfl, fun k' hk => by omega, 0, rfl⟩
            case round =>
              rename World => Vb
              obtain ⟨k, hk, rfl, hno, q, rfl⟩ := hrel
              by_cases hkj : k < j
              · have d5 : decide ((k : Int) < (j : Int)) = true := by simp; omega
                obtain ⟨z0, z1⟩ := HRs.out (Va.drewN q) k (HIq.out q).bl (by omega)
                have y1 := HCel.out q
                have HNo := Lib.hid hno
                have ewk : IntKind.i64.wrap ((k : Int) + 1) = (k : Int) + 1 := IntWalk.i64_in _ (by omega)
                have k0 : (0 : Int) ≤ (k : Int) := by omega
                have k1 : (k : Int) < (N : Int) := by omega
                have HDr : Hid (∀ m, ∃ p, (Va.drewN q).drewN m = Va.drewN p) := fun m => ⟨q + m, by simp [World.drewN, Nat.add_assoc]⟩
                have hBq := (HIq.out q).bl.drew
                by_cases hk2 : (l.getD k default).k = 2
                · rw [hk2] at z0
                  by_cases hne : (l.getD k default).n = r.n
                  · have HF := Lib.hid (HQn.out _ (HHn.out ((HMem.out _).2 ⟨k, hkj, hk2, hne⟩)) hBq)
                    rw [hne] at z1
                    clear hno hk2 hne hBq HNo
                    generalize r.n = rn at *
                    generalize Va.drewN q = wq at *
                    have zz : wq.drew.cell? (a.add (k * 3)) = some (.int .i64 2) ∧ wq.drew.cell? ⟨(a.add (k * 3)).block, (a.add (k * 3)).off + 1, none⟩ = some (.int .i64 rn) ∧ wq.drew.cell? ⟨t8, 1, none⟩ = some (.int .i64 rn) := ⟨z0, z1, y1⟩
                    go_wp2_with fail
                    go_region_held3 (fun W' => W'.cell? (a.add (k * 3)) = some (.int .i64 2) ∧ W'.cell? ⟨(a.add (k * 3)).block, (a.add (k * 3)).off + 1, none⟩ = some (.int .i64 rn) ∧ W'.cell? ⟨t8, 1, none⟩ = some (.int .i64 rn)) (first | exact zz) (fail)
                    go_wp2
                    first | exact HF.out | (go_ret2; exact HF.out)
                  · have HS : Hid (∀ k', k' < k + 1 → ¬ ((l.getD k' default).k = 2 ∧ (l.getD k' default).n = r.n)) := by
                      intro k' hk'
                      by_cases e : k' = k
                      · subst e; exact fun h => hne h.2
                      · exact HNo.out k' (by omega)
                    have d6 : ((l.getD k default).n == r.n) = false := by simpa using hne
                    clear hno hk2 hne hBq HNo
                    generalize (l.getD k default).n = ln at *
                    generalize hrn : r.n = rn at *
                    generalize Va.drewN q = wq at *
                    have zz : wq.drew.cell? (a.add (k * 3)) = some (.int .i64 2) ∧ wq.drew.cell? ⟨(a.add (k * 3)).block, (a.add (k * 3)).off + 1, none⟩ = some (.int .i64 ln) ∧ wq.drew.cell? ⟨t8, 1, none⟩ = some (.int .i64 rn) := ⟨z0, z1, y1⟩
                    go_wp2_with fail
                    go_region_held3 (fun W' => W'.cell? (a.add (k * 3)) = some (.int .i64 2) ∧ W'.cell? ⟨(a.add (k * 3)).block, (a.add (k * 3)).off + 1, none⟩ = some (.int .i64 ln) ∧ W'.cell? ⟨t8, 1, none⟩ = some (.int .i64 rn)) (first | exact zz) (fail)
                    go_wp2
                    go_roundw
                    case rel => exact ⟨k + 1, by omega, by push_cast; rfl, HS.out, HDr.out 1⟩
                    case measure => simp [intOf]; omega
                · have HS : Hid (∀ k', k' < k + 1 → ¬ ((l.getD k' default).k = 2 ∧ (l.getD k' default).n = r.n)) := by
                    intro k' hk'
                    by_cases e : k' = k
                    · subst e; exact fun h => hk2 h.1
                    · exact HNo.out k' (by omega)
                  have d6 : ((l.getD k default).k == 2) = false := by simpa using hk2
                  clear hno hk2 hBq HNo z1 y1
                  generalize (l.getD k default).k = lk at *
                  generalize Va.drewN q = wq at *
                  have z0' : wq.drew.cell? (a.add (k * 3)) = some (.int .i64 lk) := z0
                  go_wp2_with fail
                  go_region
                  go_wp2
                  go_roundw
                  case rel => exact ⟨k + 1, by omega, by push_cast; rfl, HS.out, HDr.out 1⟩
                  case measure => simp [intOf]; omega
              · obtain rfl : k = j := by omega
                have d5 : decide ((k : Int) < (k : Int)) = false := by simp
                have hnm : r.n ∉ y.m := by
                  rw [HMem.out]
                  rintro ⟨k', hk', h1, h2⟩
                  exact hno k' hk' ⟨h1, h2⟩
                have hIq := HIq.out q
                obtain ⟨y1, y2⟩ := HY2.out (Va.drewN q) rfl
                have hq8 : t8 < (Va.drewN q).heap.size := hs8
                have hqa : (Va.drewN q).heap[t8]? = Va.heap[t8]? := rfl
                clear hno HIq HMem HRs HCel HHn HQn H0
                generalize Va.drewN q = Vq at *
                rcases HLen.out with h0 | h4
                · have d6 : ((r.d.length : Int) == 4) = false := by rw [h0]; rfl
                  have hu : updT y r = ⟨y.t, y.m ++ [r.n]⟩ := by unfold updT; rw [if_neg (by omega)]
                  have HF : Hid (RdI w l b (k + 1) ⟨y.t, y.m ++ [r.n]⟩ Vq) := ⟨HL2.out _ hnm hu, hIq.rf, hIq.hb, hIq.bl⟩
                  clear hnm hu h0 hIq HL2
                  generalize r.d.length = L at *
                  go_wp2
                  go_roundw
                  case rel => exact ⟨k + 1, ⟨y.t, y.m ++ [r.n]⟩, by omega, by push_cast; rfl, rfl, by show y.t.length ≤ k + 1; omega, HF.out⟩
                  case measure => simp [intOf]; omega
                · have hu : updT y r = ⟨ins y.t ⟨r.n, g4 r.d⟩, y.m ++ [r.n]⟩ := by unfold updT; rw [if_pos h4]
                  have hnt : has y.t r.n = false := not_has_of HOkr.out.ris HTm.out hnm
                  have hst := HL2.out _ hnm hu
                  have hyl : y.t.length ≤ 100 := by omega
                  have hbV := hIq.hb
                  have ew5 : IntKind.i64.wrap ((y.t.length : Int) + 1) = (y.t.length : Int) + 1 := IntWalk.i64_in _ (by omega)
                  rw [h4] at y2
                  rw [HNr.out] at y1 hst hnt
                  -- the first store
                  have hk1 : Kept (fun i => i = b) Vq (Vq.drew.setCell ⟨b, n0, none⟩ (.bool true)) := ((Kept.refl (fun i => i = b) Vq).drew).setCell (p := ⟨b, n0, none⟩) (.inl rfl) _
                  have hB1 : Below w.heap.size w (Vq.drew.setCell ⟨b, n0, none⟩ (.bool true)) := hIq.bl.trans (hk1.below (fun i e => by omega) hIq.bl.size)
                  have hD1 := HDx.out _ hB1
                  obtain ⟨x1, x2⟩ := HY2.out (Vq.drew.setCell ⟨b, n0, none⟩ (.bool true)) ((hk1.block t8 hq8 hn8.1).trans hqa)
                  rw [h4] at x2
                  rw [HNr.out] at x1
                  have hrq : RfAt Vq.drew b y.t := hIq.rf
                  obtain ⟨c0, f0, _, gz, c1, _⟩ := hrq.is hn1
                  have c0' : Vq.cell? ⟨b, n0, none⟩ = some (.bool (has y.t (n0 : Int))) := c0
                  have f0' : Vq.frozen? ⟨b, n0, none⟩ = false := f0
                  have hput := hrq.put HOkr.out.ris hn1 (g := g4 r.d) hnt
                  have hk2 : Kept (fun i => i = b) Vq ((Vq.drew.setCell ⟨b, n0, none⟩ (.bool true)).drew.setCell ⟨b, 1024 + n0, none⟩ (.int .u32 (g4 r.d))) := (hk1.drew).setCell (p := ⟨b, 1024 + n0, none⟩) (.inl rfl) _
                  have hB2 : Below w.heap.size w ((Vq.drew.setCell ⟨b, n0, none⟩ (.bool true)).drew.setCell ⟨b, 1024 + n0, none⟩ (.int .u32 (g4 r.d))) := hIq.bl.trans (hk2.below (fun i e => by omega) hIq.bl.size)
                  have HF : Hid (RdI w l b (k + 1) ⟨ins y.t ⟨(n0 : Int), g4 r.d⟩, y.m ++ [(n0 : Int)]⟩ ((Vq.drew.setCell ⟨b, n0, none⟩ (.bool true)).drew.setCell ⟨b, 1024 + n0, none⟩ (.int .u32 (g4 r.d)))) := ⟨hst, hput, hbV, hB2⟩
                  have HIl := Lib.hid (ins_length y.t ⟨(n0 : Int), g4 r.d⟩)
                  have hD2 := HDx.out _ hB2
                  obtain ⟨v1, v2⟩ := HY2.out ((Vq.drew.setCell ⟨b, n0, none⟩ (.bool true)).drew.setCell ⟨b, 1024 + n0, none⟩ (.int .u32 (g4 r.d))) ((hk2.block t8 hq8 hn8.1).trans hqa)
                  rw [h4] at v2
                  rw [HNr.out] at v1
                  -- the bytes
                  obtain ⟨ad, hA0, q0⟩ := hD1.1 0 (by omega)
                  obtain ⟨a1, hA1, q1⟩ := hD1.1 1 (by omega)
                  obtain ⟨a2, hA2, q2⟩ := hD1.1 2 (by omega)
                  obtain ⟨a3, hA3, q3⟩ := hD1.1 3 (by omega)
                  rw [hA0] at hA1 hA2 hA3
                  cases hA1
                  cases hA2
                  cases hA3
                  have e0 : ad.add 0 = ad := by simp [Addr.add]
                  rw [e0] at q0
                  have q1 : (Vq.drew.setCell ⟨b, n0, none⟩ (.bool true)).cell? ⟨ad.block, ad.off + 1, none⟩ = some (.int .u8 (r.d.getD 1 0)) := q1
                  have q2 : (Vq.drew.setCell ⟨b, n0, none⟩ (.bool true)).cell? ⟨ad.block, ad.off + 2, none⟩ = some (.int .u8 (r.d.getD 2 0)) := q2
                  have q3 : (Vq.drew.setCell ⟨b, n0, none⟩ (.bool true)).cell? ⟨ad.block, ad.off + 3, none⟩ = some (.int .u8 (r.d.getD 3 0)) := q3
                  have hg4 : g4 r.d = r.d.getD 0 0 * 16777216 + r.d.getD 1 0 * 65536 + r.d.getD 2 0 * 256 + r.d.getD 3 0 := rfl
                  have r0 := hD1.2 0
                  have r1 := hD1.2 1
                  have r2 := hD1.2 2
                  have r3 := hD1.2 3
                  have p0 := hD2.1 0 (by omega)
                  have p1 := hD2.1 1 (by omega)
                  have p2 := hD2.1 2 (by omega)
                  have p3 := hD2.1 3 (by omega)
                  rw [hA0] at p0 p1 p2 p3
                  obtain ⟨_, e', p0⟩ := p0
                  cases e'
                  obtain ⟨_, e', p1⟩ := p1
                  cases e'
                  obtain ⟨_, e', p2⟩ := p2
                  cases e'
                  obtain ⟨_, e', p3⟩ := p3
                  cases e'
                  rw [e0] at p0
                  rw [hA0] at y2 x2 v2
                  have d6 : ((r.d.length : Int) == 4) = true := by rw [h4]; rfl
                  rw [hg4] at HF HIl p0 p1 p2 p3 v1 v2
                  have hc1 : (Vq.drew.setCell ⟨b, n0, none⟩ (.bool true)).cell? ⟨b, 1024 + n0, none⟩ = some (.int .u32 gz) := by
                    obtain ⟨cs, hcs, _⟩ := hrq
                    have hs := blk_set hcs n0 (.bool true)
                    rw [blk_cell hs]
                    rw [blk_cell hcs] at c1
                    rw [Array.getElem?_setIfInBounds, if_neg (by omega)]
                    exact c1
                  have hf1 : (Vq.drew.setCell ⟨b, n0, none⟩ (.bool true)).frozen? ⟨b, 1024 + n0, none⟩ = false := by
                    obtain ⟨cs, hcs, _⟩ := hrq
                    exact blk_free (blk_set hcs n0 (.bool true)) (1024 + n0)
                  clear hst hput hk1 hk2 hB1 hB2 hD1 hD2 hIq hrq hnm hu hnt hqa hq8 hs8 HY2 HL2 HDx HA hg4 e0 c1 HOkr HTm HGr HLen HNr
                  generalize r.d.getD 0 0 = b0 at *
                  generalize r.d.getD 1 0 = b1 at *
                  generalize r.d.getD 2 0 = b2 at *
                  generalize r.d.getD 3 0 = b3 at *
                  have w0 : IntKind.u32.wrap b0 = b0 := wraps_u32 _ (by omega) (by omega)
                  have w1 : IntKind.u32.wrap b1 = b1 := wraps_u32 _ (by omega) (by omega)
                  have w2 : IntKind.u32.wrap b2 = b2 := wraps_u32 _ (by omega) (by omega)
                  have w3 : IntKind.u32.wrap b3 = b3 := wraps_u32 _ (by omega) (by omega)
                  have w4 : IntKind.u32.wrap (b0 * 16777216) = b0 * 16777216 := wraps_u32 _ (by omega) (by omega)
                  have w5 : IntKind.u32.wrap (b1 * 65536) = b1 * 65536 := wraps_u32 _ (by omega) (by omega)
                  have w6 : IntKind.u32.wrap (b2 * 256) = b2 * 256 := wraps_u32 _ (by omega) (by omega)
                  have w7 : IntKind.u32.wrap (b0 * 16777216 + b1 * 65536) = b0 * 16777216 + b1 * 65536 := wraps_u32 _ (by omega) (by omega)
                  have w8 : IntKind.u32.wrap (b0 * 16777216 + b1 * 65536 + b2 * 256) = b0 * 16777216 + b1 * 65536 + b2 * 256 := wraps_u32 _ (by omega) (by omega)
                  have w9 : IntKind.u32.wrap (b0 * 16777216 + b1 * 65536 + b2 * 256 + b3) = b0 * 16777216 + b1 * 65536 + b2 * 256 + b3 := wraps_u32 _ (by omega) (by omega)
                  have n00 : (0 : Int) ≤ (n0 : Int) := by omega
                  have n01 : (n0 : Int) < 1024 := by omega
                  go_wp2_with fail
                  go_still_tail 6, (by kernel_rfl)
                  change wpList _ _ _ _ _ Vq.drew
                  go_wp2_with fail
                  rw [show (Vq.setCell ⟨b, n0, none⟩ (.bool true)).drew = Vq.drew.setCell ⟨b, n0, none⟩ (.bool true) from rfl]
                  generalize Vq.drew.setCell ⟨b, n0, none⟩ (.bool true) = Vs at *
                  have hc1' : Vs.drew.cell? ⟨b, 1024 + n0, none⟩ = some (.int .u32 gz) := hc1
                  have hf1' : Vs.drew.frozen? ⟨b, 1024 + n0, none⟩ = false := hf1
                  have zz : Vs.drew.cell? ⟨t8, 1, none⟩ = some (.int .i64 (n0 : Int)) ∧ Vs.drew.cell? ⟨t8, 2, none⟩ = some (.slice (some ad) 4 r.cap) ∧ Vs.drew.cell? ad = some (.int .u8 b0) ∧ Vs.drew.cell? ⟨ad.block, ad.off + 1, none⟩ = some (.int .u8 b1) ∧ Vs.drew.cell? ⟨ad.block, ad.off + 2, none⟩ = some (.int .u8 b2) ∧ Vs.drew.cell? ⟨ad.block, ad.off + 3, none⟩ = some (.int .u8 b3) := ⟨x1, x2, q0, q1, q2, q3⟩
                  have zz2 : (Vs.drew.setCell ⟨b, 1024 + n0, none⟩ (.int .u32 (b0 * 16777216 + b1 * 65536 + b2 * 256 + b3))).cell? ⟨t8, 1, none⟩ = some (.int .i64 (n0 : Int)) ∧ (Vs.drew.setCell ⟨b, 1024 + n0, none⟩ (.int .u32 (b0 * 16777216 + b1 * 65536 + b2 * 256 + b3))).cell? ⟨t8, 2, none⟩ = some (.slice (some ad) 4 r.cap) ∧ (Vs.drew.setCell ⟨b, 1024 + n0, none⟩ (.int .u32 (b0 * 16777216 + b1 * 65536 + b2 * 256 + b3))).cell? ad = some (.int .u8 b0) ∧ (Vs.drew.setCell ⟨b, 1024 + n0, none⟩ (.int .u32 (b0 * 16777216 + b1 * 65536 + b2 * 256 + b3))).cell? ⟨ad.block, ad.off + 1, none⟩ = some (.int .u8 b1) ∧ (Vs.drew.setCell ⟨b, 1024 + n0, none⟩ (.int .u32 (b0 * 16777216 + b1 * 65536 + b2 * 256 + b3))).cell? ⟨ad.block, ad.off + 2, none⟩ = some (.int .u8 b2) ∧ (Vs.drew.setCell ⟨b, 1024 + n0, none⟩ (.int .u32 (b0 * 16777216 + b1 * 65536 + b2 * 256 + b3))).cell? ⟨ad.block, ad.off + 3, none⟩ = some (.int .u8 b3) := ⟨v1, v2, p0, p1, p2, p3⟩
                  clear x1 x2 q0 q1 q2 q3 v1 v2 p0 p1 p2 p3 hc1 hf1 y1 y2 c0 f0 c0' f0'
                  go_region_held3 (fun W' => W'.cell? ⟨t8, 1, none⟩ = some (.int .i64 (n0 : Int)) ∧ W'.cell? ⟨t8, 2, none⟩ = some (.slice (some ad) 4 r.cap) ∧ W'.cell? ad = some (.int .u8 b0) ∧ W'.cell? ⟨ad.block, ad.off + 1, none⟩ = some (.int .u8 b1) ∧ W'.cell? ⟨ad.block, ad.off + 2, none⟩ = some (.int .u8 b2) ∧ W'.cell? ⟨ad.block, ad.off + 3, none⟩ = some (.int .u8 b3)) (first | exact zz | exact zz2) (fail)
                  clear zz zz2
                  go_wp2
                  go_roundw
                  case rel => exact ⟨k + 1, ⟨ins y.t ⟨(n0 : Int), b0 * 16777216 + b1 * 65536 + b2 * 256 + b3⟩, y.m ++ [(n0 : Int)]⟩, by omega, by push_cast; rfl, by show Value.int _ _ = .int _ ((ins y.t _).length : Int); rw [HIl.out]; push_cast; rfl, by show (ins y.t _).length ≤ k + 1; rw [HIl.out]; omega, HF.out⟩
                  case measure => simp [intOf]; omega
      · have d1 : (r.k != 2) = true := by simpa using hk
        have hS := HStep.out y (by unfold td1; rw [if_pos hk])
        have HF : Hid (RdI w l b (j + 1) y Va) := ⟨hS, HIa.out.rf, HIa.out.hb, HIa.out.bl⟩
        clear hS HStep HBad
        go_wp2
        go_roundw
        case rel => exact ⟨j + 1, y, by omega, by push_cast; rfl, rfl, by omega, HF.out⟩
        case measure => simp [intOf]; omega
    · obtain rfl : j = N := by omega
      have d0 : decide ((j : Int) < (j : Int)) = false := by simp
      have hF : tdF l = some y := by have := hI.st; rwa [List.take_of_length_le (by rw [← HN.out]; exact Nat.le_refl _)] at this
      by_cases he : 16 < y.t.length
      · have HF := Lib.hid (HQe.out y V hF he hI.bl)
        have d1 : decide ((16 : Int) < (y.t.length : Int)) = true := by simp; omega
        clear hI hF
        go_wp2
        first | exact HF.out | (go_ret2; exact HF.out)
      · have HF := Lib.hid (HQs.out y V hF he hI.rf hI.bl)
        have d1 : decide ((16 : Int) < (y.t.length : Int)) = false := by simp; omega
        clear hI hF
        go_wp2
        first | exact HF.out | (go_ret2; exact HF.out)
end Go.Proofs.Ytijhkjegpcmjoaa
