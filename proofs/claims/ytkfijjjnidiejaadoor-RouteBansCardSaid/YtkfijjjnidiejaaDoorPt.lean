/-
  route.path: the way that is told.
-/
import Derived.Test.YtkfijjjnidiejaaDoorBg
import Derived.Test.YtkfijjjnidiejaaDoorRt1
import Derived.Test.YtkfijjjnidiejaaDoorQSort
import Derived.Test.YtkfijjjnidiejaaDoorLk4
import Derived.Deep.AppendLies
namespace Go.Proofs.YtkfijjjnidiejaaDoor
set_option maxRecDepth 100000
open Go Go.RowKit Rq

/-- By what was met. -/
abbrev PM (M : List (Nat × Nat)) (d y : Nat) : Bool := decide ((y, d) ∈ M)
structure PR (E : Env) (w : World) (M : List (Nat × Nat)) (v : Value) (l : List Nat) (wr : World) : Prop where
  obj : ObjAt E wr
  ex : EmX E.bm E.gm E.cm E.R E.C E.ms w wr
  mp : MapM wr E.m M
  own : wr.ownsRow w.heap.size 3 1 v l.length (l.map natV)
  dis : ∀ k, TS E.bm E.gm wr k → v.ownBlock ≠ some k
  lt : E.bs < w.heap.size ∧ E.bb < w.heap.size ∧ E.m < w.heap.size
def PathP (E : Env) (w : World) (M : List (Nat × Nat)) (D : Nat) (e : Ending) (w' : World) : Prop :=
  ∃ v, e = .returned v ∧ EmX E.bm E.gm E.cm E.R E.C E.ms w w' ∧ w'.ownsRow w.heap.size 3 1 v (D + 1) ((pthF (outs E.R E.C E.ms) (PM M) D E.fr).map natV)
/-- What its loop has. -/
def OutP (E : Env) (w : World) (M : List (Nat × Nat)) (D : Nat) (a v u : Value) (wr : World) : Prop :=
  ∃ (l : List Nat) (gq cap at_ d : Nat), a = .int .i64 (at_ : Int) ∧ v = .slice (some ⟨gq, 0, none⟩) l.length cap ∧ u = .int .i64 ((d : Int) - 1) ∧ PR E w M v l wr ∧ l ++ (pthF (outs E.R E.C E.ms) (PM M) d at_).tail = pthF (outs E.R E.C E.ms) (PM M) D E.fr ∧ (at_, d) ∈ M ∧ l.length + d = D + 1

section
variable {E : Env} {w wr w1 w2 : World} {M : List (Nat × Nat)} {v : Value} {l : List Nat}
theorem PR.start (H : SeH E M w) (c : Nat) : PR E w M (.slice (some ⟨w.heap.size, 0, none⟩) 1 1) [c] (w.alloc (.cells #[natV c] 3)) := by
  have hk : Kept (fun _ => False) w (w.alloc (.cells #[natV c] 3)) := (Kept.refl _ w).alloc _
  have hN : 0 < E.ms.length := by have := H.fr; have h1 : E.N = E.ms.length := rfl; omega
  have hl := H.em.tlt hN
  obtain ⟨e1, t1⟩ := H.em.keptX hk (fun _ _ => id)
  refine ⟨H.obj.kept hk id id, ⟨e1, fun k hk' => .inl (t1 k hk'), (Kept.refl _ w).alloc _⟩, H.map.kept hk id, ?_, fun k hk' => ?_, World.block_lt_of_cell? w ⟨E.bs, 0, none⟩ H.obj.c0, blk_lt H.obj.bans, H.map.lt⟩
  · have hnew := heap_alloc_new w (.cells #[natV c] 3)
    have := rowQ_of_cells (base := w.heap.size) (cap := 1) (ys := [c]) hnew (by omega) rfl (by simp) (by unfold maxLen; omega) (fun j hj => by
      have : j = 0 := by simp at hj; omega
      subst this
      rw [blk_cell hnew]
      rfl)
    simpa using this
  · have := hl k (t1 k hk')
    simp only [Value.ownBlock, ne_eq, Option.some.injEq]
    omega
theorem PR.asked (H : SeH E M w) (h : PR E w M v l wr) (hx : EmX E.bm E.gm E.cm E.R E.C E.ms wr w1) : PR E w M v l w1 := by
  refine ⟨h.obj.kept hx.kp (fun e => H.n1 e.symm) (fun e => H.n2 e.symm), h.ex.trans hx, h.mp.kept hx.kp (fun e => H.n3 e.symm), hx.kp.row h.own (fun k hk e => h.dis k (.inr (.inl e)) hk), fun k hk e => ?_, h.lt⟩
  rcases hx.ts k hk with h1 | h1
  · exact h.dis k h1 e
  · have := (h.own.lt k e).2; omega
theorem PR.app (H : SeH E M w) {y g2 cap2 : Nat} {o : Obj} (h : PR E w M v l wr) (hg : (wr.alloc o).grownBy w2 v.ownBlock)
    (ho : w2.ownsRow w.heap.size 3 1 (.slice (some ⟨g2, 0, none⟩) (l.length + 1) cap2) (l.length + 1) (l.map natV ++ [natV y])) (hat : v.ownBlock = some g2 ∨ g2 = wr.heap.size + 1) : PR E w M (.slice (some ⟨g2, 0, none⟩) (l.length + 1) cap2) (l ++ [y]) w2 := by
  have hk : Kept (fun k => v.ownBlock = some k) wr w2 := ((Kept.refl _ wr).alloc o).trans ((Kept.refl (fun k => v.ownBlock = some k) (wr.alloc o)).grown hg (fun k h => .inl h)) (fun _ _ h => h)
  have hN : 0 < E.ms.length := by have := H.fr; have h1 : E.N = E.ms.length := rfl; omega
  obtain ⟨h1, h2⟩ := h.ex.em.keptX hk (fun k hk e => h.dis k hk e)
  have hb : ∀ k, v.ownBlock = some k → w.heap.size ≤ k := fun k e => (h.own.lt k e).1
  obtain ⟨l1, l2, l3⟩ := h.lt
  have hlt : ∀ k, TS E.bm E.gm wr k → k < wr.heap.size := h.ex.em.tlt hN
  refine ⟨h.obj.kept hk (fun e => by have := hb _ e; omega) (fun e => by have := hb _ e; omega), ⟨h1, fun k hk' => h.ex.ts k (h2 k hk'), h.ex.kp.trans hk (fun i hi e => by have := hb _ e; omega)⟩, h.mp.kept hk (fun e => by have := hb _ e; omega), by simpa using ho, fun k hk' e => ?_, h.lt⟩
  simp only [Value.ownBlock, Option.some.injEq] at e
  have h3 := h2 k hk'
  rcases hat with h4 | h4
  · exact h.dis k h3 (by rw [h4, e])
  · have := hlt k h3; omega
end

theorem find_at {α : Type} {p : α → Bool} : ∀ {l : List α} {j : Nat} {y : α}, (∀ x ∈ l.take j, p x = false) → l[j]? = some y → p y = true → l.find? p = some y
  | [], j, y, _, h, _ => by simp at h
  | x :: l, 0, y, _, h, hp => by
    have : x = y := by simpa using h
    subst this
    rw [List.find?_cons, hp]
  | x :: l, j + 1, y, hno, h, hp => by
    rw [List.find?_cons, hno x (by simp)]
    exact find_at (j := j) (fun z hz => hno z (by rw [List.take_succ_cons]; exact List.mem_cons_of_mem _ hz)) (by simpa using h) hp
theorem pth_next {nx : Nat → List Nat} {P : Nat → Nat → Bool} {d c y : Nat} {l r : List Nat} (h : l ++ (pthF nx P (d + 1) c).tail = r) (hf : (nx c).find? (P d) = some y) : (l ++ [y]) ++ (pthF nx P d y).tail = r := by
  rw [← h]
  show _ = l ++ pthF nx P d (((nx c).find? (P d)).getD c)
  rw [hf]
  cases d <;> simp [pthF]

set_option maxHeartbeats 4000000 in
theorem path_any {E : Env} {w : World} {M : List (Nat × Nat)} {D : Nat} (H : SeH E M w) (hN2 : E.N ≤ 1024) (hD : (E.fr, D) ∈ M) (hb : ∀ c d, (c, d) ∈ M → c < E.N ∧ d < E.N) (hu : ∀ c d d', (c, d) ∈ M → (c, d') ∈ M → d = d')
    (hch : ∀ c d, (c, d + 1) ∈ M → ∃ y ∈ outs E.R E.C E.ms c, (y, d) ∈ M) :
    Calls Tryd.prog 32 #[.pointer (some ⟨E.bs, 0, none⟩)] w (PathP E w M D) := by
  have HH := Lib.hid H
  have HB := Lib.hid hb
  have HU := Lib.hid hu
  have HC := Lib.hid hch
  have HD := Lib.hid hD
  have hN : 0 < E.ms.length := by have := H.fr; have h1 : E.N = E.ms.length := rfl; omega
  have hfr := H.fr
  have hDN := (hb _ _ hD).2
  obtain ⟨Dm, hDm⟩ := H.map
  have hkey := dkey (h := E.fr) (by omega)
  have HAt : Hid (∀ z : Int, Dm.atKey (.int .i64 (E.fr : Int)) (.lit (.int .i64 0)) = .lit (.int .i64 z) → z = (D : Int)) := fun z hz => hDm.at_ hD hz
  have HOW := Lib.hid hDm.1
  have g1 := H.obj.c1
  have g4 := H.obj.c4
  have hw1 : IntKind.i64.wrap ((D : Int) - 1) = (D : Int) - 1 := IntWalk.i64_in _ (by omega)
  have HS : Hid (OutP E w M D (.int .i64 (E.fr : Int)) (.slice (some ⟨w.heap.size, 0, none⟩) 1 1) (.int .i64 ((D : Int) - 1)) (w.alloc (.cells #[.int .i64 (E.fr : Int)] 3))) :=
    ⟨[E.fr], w.heap.size, 1, E.fr, D, rfl, rfl, rfl, PR.start H E.fr, by cases D <;> rfl, hD, by simp; omega⟩
  have k4 : Hid (∀ o, (w.alloc o).cell? ⟨E.bs, 4, none⟩ = some (.map (some E.m))) := fun o => ((Kept.refl (fun _ => False) w).alloc o).cell g4 id
  clear H hb hu hch hD hDm
  generalize hbs : E.bs = bs at *
  generalize hem : E.m = m at *
  generalize hfe : E.fr = fr at *
  generalize hml' : M.length = L at *
  have HE : Hid (E.bs = bs ∧ E.m = m ∧ E.fr = fr ∧ M.length = L) := ⟨hbs, hem, hfe, hml'⟩
  clear hbs hem hfe hml'
  have k4a := k4.out (.cells #[.int .i64 (fr : Int)] 3)
  go_enter Tryd.func32, Tryd.ntmps32
  go_wp2_with (at_lookup; refine wpList_lookup_own_int _ rfl _ _ 67 rfl 3 3 .i64 dkeyed Tryd.underlying67 Tryd.underlying3 (dzero _) m L Dm rfl (HOW.out.alloc _) _ _ rfl hkey ?_; intro z hat hwz; obtain rfl := HAt.out z hat; clear hat hwz)
  clear k4a hw1 hkey HOW HAt g1
  go_loopw [3, 4, 5] (fun a v u wr => OutP E w M D a v u wr) (fun _ _ u _ => (intOf u + 1).toNat)
  case atStart => exact HS.out
  case round =>
    obtain ⟨l, gq, cap, c, d, rfl, rfl, rfl, hp, heq, hcm, hld⟩ := hrel
    rename World => W
    clear HS
    cases d with
    | zero =>
      have HP : Hid (PathP E w M D (.returned (.slice (some ⟨gq, 0, none⟩) l.length cap)) W) := by
        have e1 : l = pthF (outs E.R E.C E.ms) (PM M) D E.fr := by
          rw [← heq]; simp [pthF]
        refine ⟨_, rfl, hp.ex, ?_⟩
        have := hp.own
        rw [← e1, show D + 1 = l.length by omega]
        exact this
      clear hp heq hcm hld
      generalize l.length = ll at *
      go_wp2
      go_ret
      exact HP.out
    | succ d =>
      have ed : ((d + 1 : Nat) : Int) - 1 = (d : Int) := by omega
      rw [ed]
      have HPR := Lib.hid hp
      have HEQ := Lib.hid heq
      have HCM := Lib.hid hcm
      have HLD := Lib.hid hld
      obtain ⟨hcN, hdN⟩ := HB.out _ _ hcm
      have fm := hp.obj.c0
      have fp4 := hp.obj.c4
      have hnl : nextZ E.R E.C E.ms (c : Int) = outs E.R E.C E.ms c := by
        have h1 : E.N = E.ms.length := rfl
        unfold nextZ; rw [if_pos (by omega)]; rfl
      have HNx := Lib.hid (next_x (c : Int) hp.ex.em hN)
      rw [hnl] at HNx
      rw [HE.out.1] at fm fp4
      clear hp heq hcm hld ed hnl
      have d0 : (0 : Int) ≤ (d : Int) := by omega
      have HML : Hid (M.length = L) := HE.out.2.2.2
      generalize hlen : l.length = ll at *
      have HLL := Lib.hid hlen
      clear hlen
      go_wp2_with fail
      go_step3
      go_wp2_with fail
      go_step3
      go_wp2_with fail
      refine HNx.out.mono ?_
      rintro e w3 ⟨v3, rfl, hem3, hts3, hkp3, hrow3, htv3⟩
      have HX3 : Hid (EmX E.bm E.gm E.cm E.R E.C E.ms W w3) := ⟨hem3, hts3, hkp3⟩
      have HA3 := Lib.hid (PR.asked HH.out HPR.out HX3.out)
      obtain ⟨A, cp, rfl, hia, hav⟩ := row_ints hrow3
      have HIA := Lib.hid hia
      have HLk : Hid ((outs E.R E.C E.ms c).length ≤ 4) := outs_len E.R E.C E.ms c
      obtain ⟨y0, hy0, hy0m⟩ := HC.out _ _ HCM.out
      have HY0 := Lib.hid (And.intro hy0 hy0m)
      have fb4 : w3.cell? ⟨bs, 4, none⟩ = some (.map (some m)) := by
        have := HA3.out.obj.c4
        rw [HE.out.1, HE.out.2.1] at this
        exact this
      have HMp : Hid (MapM w3 m M) := by
        have := HA3.out.mp
        rw [HE.out.2.1] at this
        exact this
      have HMet : Hid (∀ y : Nat, y ≤ 100000 → Calls Tryd.prog 49 #[.pointer (some ⟨bs, 0, none⟩), .int .i64 (y : Int)] w3 fun e w' => e = .returned (.bool (metB M y)) ∧ w3 = w') := fun y hy => by
        have h1 := HA3.out.obj.c4
        have := met_any (E := E) h1 HA3.out.mp hy
        rw [HE.out.1] at this
        exact this
      have HbM : Hid (∀ y ∈ outs E.R E.C E.ms c, y < 100000) := fun y hy => by
        have h1 := outs_bd hy
        rw [HH.out.em.hN] at h1
        have h2 : E.N = E.ms.length := rfl
        omega
      clear hem3 hts3 hkp3 hrow3 htv3 hia hav HNx HX3 hy0 hy0m fm fp4
      generalize hK : (outs E.R E.C E.ms c).length = k at *
      have HK := Lib.hid hK
      clear hK
      go_wp2
      go_loopw [32] (fun u wr => w3 = wr ∧ ∃ j : Nat, j ≤ k ∧ u = .int .i64 (j : Int) ∧ ∀ y ∈ (outs E.R E.C E.ms c).take j, PM M d y = false) (fun u _ => k - (intOf u).toNat)
      case atStart => exact ⟨rfl, 0, Nat.zero_le _, rfl, by simp⟩
      case round =>
        obtain ⟨rfl, j, hj, rfl, hno⟩ := hrel
        have HNo := Lib.hid hno
        clear hno
        by_cases hjk : j < k
        · have hjo : j < (outs E.R E.C E.ms c).length := by rw [HK.out]; exact hjk
          obtain ⟨a, rfl, fy⟩ := ints_at HIA.out (j := j) (by rw [intsQ_length]; exact hjo)
          obtain ⟨y, hy⟩ : ∃ y, (outs E.R E.C E.ms c)[j]? = some y := ⟨_, List.getElem?_eq_getElem hjo⟩
          have hgy : (intsQ (outs E.R E.C E.ms c)).getD j 0 = (y : Int) := by simp [intsQ, List.getD, hy]
          rw [hgy] at fy
          have hym := List.mem_of_getElem? hy
          have hy5 := HbM.out y hym
          have HTk : Hid ((outs E.R E.C E.ms c).take (j + 1) = (outs E.R E.C E.ms c).take j ++ [y]) := by
            show _ = _
            rw [List.take_add_one, hy]; rfl
          have HYg := Lib.hid hy
          have HMy := Lib.hid (HMet.out y (by omega))
          have j0 : (0 : Int) ≤ (j : Int) := by omega
          have j1 : (j : Int) < (k : Int) := by omega
          have hwj : IntKind.i64.wrap ((j : Int) + 1) = (j : Int) + 1 := IntWalk.i64_in _ (by have := HLk.out; omega)
          have HPass : Hid (PM M d y = false → w3 = w3 ∧ ∃ j' : Nat, j' ≤ k ∧ Value.int .i64 ((j : Int) + 1) = .int .i64 (j' : Int) ∧ ∀ z ∈ (outs E.R E.C E.ms c).take j', PM M d z = false) := fun h => by
            refine ⟨rfl, j + 1, by omega, by go_num, fun z hz => ?_⟩
            rw [HTk.out] at hz
            rcases List.mem_append.1 hz with h1 | h1
            · exact HNo.out z h1
            · have : z = y := by simpa using h1
              rw [this]; exact h
          clear hgy hy hym hjo hj
          cases hm : metB M y with
          | false =>
            have HF := Lib.hid (HPass.out (by
              have := metB_false.1 hm
              exact decide_eq_false (fun h => this ⟨d, h⟩)))
            rw [hm] at HMy
            clear HPass
            go_wp2_with (with_reducible refine HMy.out.mono ?_; rintro e w' ⟨rfl, rfl⟩)
            go_roundw
            case rel => exact HF.out
            case measure => simp [intOf]; omega
          | true =>
            obtain ⟨d', hd'⟩ := metB_true.1 hm
            have hlk := map_look HMp.out hd' (by omega)
            rw [hm] at HMy
            by_cases hdd : d' = d
            · subst hdd
              have HYM := Lib.hid hd'
              have ee : ((d' : Int) == (d' : Int)) = true := by simp
              have hwd : IntKind.i64.wrap ((d' : Int) - 1) = (d' : Int) - 1 := IntWalk.i64_in _ (by omega)
              obtain ⟨i0, hi0, hz0, hz1, hz2⟩ := info_parts Tryd.infoInt
              have HOW3 := Lib.hid HA3.out.own
              rw [HLL.out] at HOW3
              have HW3 : Hid (w.heap.size ≤ w3.heap.size) := HA3.out.ex.kp.size
              have HNe := Lib.hid (World.news_of_block (heap_alloc_new w3 (.cells #[.int .i64 (y : Int)] 3)))
              have HAp : Hid (∀ w5 g2 cap5, (w3.alloc (.cells #[.int .i64 (y : Int)] 3)).grownBy w5 (Value.slice (some ⟨gq, 0, none⟩) ll cap).ownBlock → w5.ownsRow w.heap.size 3 1 (.slice (some ⟨g2, 0, none⟩) (ll + 1) cap5) (ll + 1) (l.map natV ++ [natV y]) → ((Value.slice (some ⟨gq, 0, none⟩) ll cap).ownBlock = some g2 ∨ g2 = w3.heap.size + 1) → OutP E w M D (.int .i64 (y : Int)) (.slice (some ⟨g2, 0, none⟩) (ll + 1) cap5) (.int .i64 ((d' : Int) - 1)) w5) := by
                intro w5 g2 cap5 hg ho hat
                have hl2 := HLL.out
                have h1 := HLD.out
                rw [← hl2] at hg ho hat ⊢
                refine ⟨l ++ [y], g2, cap5, y, d', rfl, by simp, rfl, PR.app HH.out HA3.out hg ho hat |> fun h => by simpa using h, pth_next HEQ.out (find_at HNo.out HYg.out (decide_eq_true hd')), hd', by simp; omega⟩
              have hml2 := HLD.out
              clear HPass HNo HMet hm hd'
              go_wp2_with (first | (go_at_call 49; (with_reducible refine HMy.out.mono ?_); rintro e w' ⟨rfl, rfl⟩) | (at_builtin; refine wpList_append_lies _ rfl (.tmp 51) (.tmp 53) 22 rfl w.heap.size 3 i0 (.int .i64 0) 1 8 Tryd.underlying22 hi0 hz0 hz1 hz2 rfl (by decide) (.slice (some ⟨gq, 0, none⟩) ll cap) ll (l.map natV) rfl (HOW3.out.alloc _) ⟨w3.heap.size, 0, none⟩ 1 1 [.int .i64 (y : Int)] rfl rfl (by have := HNe.out; simpa using this) (by intro u hu; simp at hu; subst hu; rfl) (by decide) (by unfold maxLen; omega) (by omega) (by have := HW3.out; simp; omega) (w3.heap.size + 1) (by simp) ?_; intro g2 cap5 w5 ho5 hg5 hat5 hlt5; have HF := Lib.hid (HAp.out w5 g2 cap5 hg5 ho5 hat5); clear ho5 hg5 hat5 hlt5))
              go_wp2
              apply_assumption
              go_wp2
              go_roundw
              case rel => exact HF.out
              case measure => simp [intOf]
            · have HF := Lib.hid (HPass.out (decide_eq_false (fun h => hdd (HU.out _ _ _ hd' h))))
              have ee : ((d' : Int) == (d : Int)) = false := by simp; omega
              clear HPass hd'
              go_wp2_with (with_reducible refine HMy.out.mono ?_; rintro e w' ⟨rfl, rfl⟩)
              go_roundw
              case rel => exact HF.out
              case measure => simp [intOf]; omega
        · exfalso
          have h1 := HNo.out y0 (by rw [List.take_of_length_le (by rw [HK.out]; omega)]; exact HY0.out.1)
          simp [PM, HY0.out.2] at h1
end Go.Proofs.YtkfijjjnidiejaaDoor
