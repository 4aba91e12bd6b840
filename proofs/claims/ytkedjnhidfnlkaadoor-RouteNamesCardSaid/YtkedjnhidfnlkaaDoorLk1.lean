/-
  look: the iterator of the cells from which a route may step into one.
-/
import Derived.Test.YtkedjnhidfnlkaaDoorQ2
import Derived.Test.YtkedjnhidfnlkaaDoorLk0
import Derived.Test.YtkedjnhidfnlkaaDoorRange2
import Derived.RangeFuncBound
import Derived.Shelf.Abstract
import Derived.Shelf.RegionOpen
import Derived.OwnWalkIn
import Derived.TacticsInMore
import Derived.LoopNIn
import Derived.LoopIn
import Derived.Deep.QuietTactic
import Derived.BigQuiet
import Derived.Sort.QuietIn
import Derived.Stop.RegionWithIn
namespace Go.Proofs.YtkedjnhidfnlkaaDoor
set_option maxRecDepth 100000
open Go Go.RowKit Rq
attribute [local go_sem] Oper.semAt_some

theorem ins_mem {R C : Nat} {ms : List UInt8} {i u : Nat} : i ∈ ins R C ms u ↔ i < ms.length ∧ u ∈ outs R C ms i := by
  unfold ins
  rw [List.mem_filter, List.mem_range, decide_eq_true_eq]
theorem ins_far {R C : Nat} {ms : List UInt8} (hC : 1 ≤ C) (hN : R * C = ms.length) {i u : Nat} (h : i ∈ ins R C ms u) : i < ms.length ∧ u < ms.length ∧ apartZ ((i / C : Nat) : Int) ((u / C : Nat) : Int) + apartZ ((i % C : Nat) : Int) ((u % C : Nat) : Int) = 1 := by
  obtain ⟨h1, h2⟩ := ins_mem.1 h
  obtain ⟨h3, h4, _⟩ := out_facts hC hN h1 h2
  unfold farZ at h4
  rw [if_pos (by omega)] at h4
  exact ⟨h1, h3, h4⟩
theorem ins_side {R C : Nat} {ms : List UInt8} (hC : 1 ≤ C) (hN : R * C = ms.length) {i u : Nat} (h : i ∈ ins R C ms u) : i ∈ [u - 1, u + 1, u - C, u + C] := by
  obtain ⟨_, _, h3⟩ := ins_far hC hN h
  have e1 := Nat.div_add_mod i C
  have e2 := Nat.div_add_mod u C
  unfold apartZ at h3
  simp only [List.mem_cons, List.not_mem_nil, or_false]
  have hq : i / C = u / C ∨ i / C = u / C + 1 ∨ u / C = i / C + 1 := by omega
  rcases hq with hq | hq | hq
  · rw [hq] at e1 h3
    omega
  · rw [hq] at e1 h3
    rw [Nat.mul_add] at e1
    omega
  · rw [hq] at e2 h3
    rw [Nat.mul_add] at e2
    omega
theorem ins_len4 {R C : Nat} {ms : List UInt8} (hC : 1 ≤ C) (hN : R * C = ms.length) (u : Nat) : (ins R C ms u).length ≤ 4 := by
  have hnd : (ins R C ms u).Nodup := (List.nodup_range).sublist List.filter_sublist
  have := List.Nodup.length_le_of_subset hnd (fun x hx => ins_side hC hN hx)
  simpa using this

/-- The blocks of the pile at b, as it lies. -/
def PB (b : Nat) (w : World) (k : Nat) : Prop := k = b ∨ ∃ v, w.cell? ⟨b, 0, none⟩ = some v ∧ v.ownBlock = some k
theorem PileS.pb {w : World} {b : Nat} {r : Option Nat} {s : List Pq.It} (h : PileS w b 0 r s) (k : Nat) : PB b w k ↔ Of b r k := by
  obtain ⟨l, ⟨v, hc, hf, hr, _⟩, _⟩ := h
  constructor
  · rintro (e | ⟨v', h1, h2⟩)
    · exact .inl e
    · rw [hc] at h1; cases h1; exact .inr (by rw [← hr, h2])
  · rintro (e | e)
    · exact .inl e
    · exact .inr ⟨v, hc, by rw [hr, e]⟩

/-- What a round keeps: all cells but the pile's. -/
structure KeepP (b : Nat) (A B : World) : Prop where
  size : A.heap.size ≤ B.heap.size
  blk : ∀ (k : Nat) (o : Obj), A.heap[k]? = some o → o.isCells = true → ¬ PB b A k → B.heap[k]? = some o
  pb : ∀ k, PB b B k → PB b A k ∨ A.heap.size ≤ k
theorem KeepP.refl (b : Nat) (A : World) : KeepP b A A := ⟨Nat.le_refl _, fun _ _ h _ _ => h, fun _ h => .inl h⟩
theorem KeepP.trans {b : Nat} {A B C : World} (h : KeepP b A B) (k : KeepP b B C) : KeepP b A C :=
  ⟨Nat.le_trans h.size k.size, fun i o hi hc hn => k.blk i o (h.blk i o hi hc hn) hc (fun hp => (h.pb i hp).elim hn (fun h1 => by have := blk_lt hi; omega)),
    fun i hi => (k.pb i hi).elim (h.pb i) (fun h1 => .inr (Nat.le_trans h.size h1))⟩
theorem KeepP.cell {b : Nat} {A B : World} (h : KeepP b A B) {p : Addr} {v : Value} (hv : A.cell? p = some v) (hn : ¬ PB b A p.block) : B.cell? p = some v := by
  have hlt := World.block_lt_of_cell? A p hv
  have ho : A.heap[p.block]? = some A.heap[p.block] := Array.getElem?_eq_getElem hlt
  exact (World.cell?_of_block ((h.blk _ _ ho (cells_of_cell hv ho) hn).trans ho.symm)).trans hv
theorem KeepP.still {b : Nat} {A B : World} (h : KeepP b A B) {k : Nat} (hk : k < A.heap.size) (hn : ¬ PB b A k) : ¬ PB b B k := fun hp => (h.pb k hp).elim hn (fun h1 => by omega)
theorem pb_still {b : Nat} {W W' : World} (h : W'.heap[b]? = W.heap[b]?) (k : Nat) : PB b W' k ↔ PB b W k := by
  unfold PB
  rw [World.cell?_of_block (a := ⟨b, 0, none⟩) h]
theorem KeepP.putObj {b : Nat} (W : World) {l : Nat} {o : Obj} (o' : Obj) (hl : W.heap[l]? = some o) (hc : o.isCells = false) (hb : b ≠ l) : KeepP b W (W.putObj l o') := by
  refine ⟨by simp [World.putObj], fun k x hk hx _ => ?_, fun k hk => .inl ((pb_still (World.putObj_heap_other hb) k).1 hk)⟩
  rw [World.putObj_heap_other (by rintro rfl; rw [hl] at hk; cases hk; rw [hc] at hx; cases hx)]
  exact hk
theorem KeepP.of_kept {b : Nat} {A B : World} {X : Nat → Prop} (h : Kept X A B) (hb : b < A.heap.size) (hX : ∀ k, X k → False) : KeepP b A B :=
  ⟨h.size, fun k _ hk _ _ => (h.block k (blk_lt hk) (hX k)).trans hk, fun k hk => .inl ((pb_still (h.block b hb (hX b)) k).1 hk)⟩

/-- The iterator's own steps. -/
structure StpT (bm gm cm R C : Nat) (ms : List UInt8) (A B : World) : Prop where
  ex : EmX bm gm cm R C ms A B
  non : ∀ (k : Nat) (o : Obj), A.heap[k]? = some o → o.isCells = false → B.heap[k]? = some o
theorem StpT.of_ex {bm gm cm R C : Nat} {ms : List UInt8} {A B : World} (hE : EM bm gm cm R C ms A) (h : EmX bm gm cm R C ms A B) : StpT bm gm cm R C ms A B := by
  refine ⟨h, fun k o hk hc => (h.kp.block k (blk_lt hk) (fun e => ?_)).trans hk⟩
  subst e
  rw [cells_of_cell hE.c0 hk] at hc
  cases hc

/-- What the iterator reads all along. -/
structure BI (E : Env) (b bx : Nat) (A : Option Addr) (l : List Nat) (W : World) : Prop where
  obj : ObjAt E W
  cx : W.cell? ⟨bx, 0, none⟩ = some (.pointer (some ⟨E.bs, 0, none⟩))
  li : IntsAt W A (intsQ l)
  n1 : ¬ PB b W E.bs
  n2 : ¬ PB b W E.bb
  n3 : ¬ PB b W bx
  n4 : ∀ a, A = some a → ¬ PB b W a.block
theorem BI.keep {E : Env} {b bx : Nat} {A : Option Addr} {l : List Nat} {W W' : World} (h : BI E b bx A l W) (hk : KeepP b W W') (hA : ∀ a, A = some a → a.block < W.heap.size) : BI E b bx A l W' := by
  refine ⟨⟨hk.cell h.obj.c0 h.n1, hk.cell h.obj.c1 h.n1, hk.cell h.obj.c2 h.n1, hk.cell h.obj.c3 h.n1, hk.cell h.obj.c4 h.n1, hk.blk _ _ h.obj.bans rfl h.n2⟩, hk.cell h.cx h.n3, fun j hj => ?_,
    hk.still (World.block_lt_of_cell? W ⟨E.bs, 0, none⟩ h.obj.c0) h.n1, hk.still (blk_lt h.obj.bans) h.n2, hk.still (World.block_lt_of_cell? W ⟨bx, 0, none⟩ h.cx) h.n3, fun a e => hk.still (hA a e) (h.n4 a e)⟩
  obtain ⟨a, e, h1, h2⟩ := h.li j hj
  have hbk : (a.add j).block = a.block := by unfold Addr.add; split <;> rfl
  exact ⟨a, e, Nat.lt_of_lt_of_le h1 hk.size, hk.cell h2 (by rw [hbk]; exact h.n4 a e)⟩

/-- The cells from which a route may step into c. -/
def befL (E : Env) (c : Nat) : List Nat := (ins E.R E.C E.ms c).filter (mayF E)

set_option maxHeartbeats 2000000 in
theorem before_tells (n : Nat) (hn : 1 ≤ n) (E : Env) (bx bc b c : Nat) (w : World) (hO : ObjAt E w) (hE : EM E.bm E.gm E.cm E.R E.C E.ms w) (hN : 0 < E.N) (hN2 : E.N ≤ 1024) (hcN : c < E.N)
    (h1 : w.cell? ⟨bx, 0, none⟩ = some (.pointer (some ⟨E.bs, 0, none⟩))) (h2 : w.cell? ⟨bc, 0, none⟩ = some (.int .i64 (c : Int)))
    (hb : ∀ k, PB b w k → k < w.heap.size) (hbb : b < w.heap.size) (n1 : ¬ PB b w E.bs) (n2 : ¬ PB b w E.bb) (n3 : ¬ PB b w bx) (n5 : E.bm ≠ E.bs) (n6 : E.bm ≠ E.bb) (n7 : E.bm ≠ bx) (n8 : E.bm ≠ b) (n9 : E.bm ≠ bc) (hlen : (ins E.R E.C E.ms c).length ≤ 1024) :
    Tells n Tryd.prog 95 #[.pointer (some ⟨bx, 0, none⟩), .pointer (some ⟨bc, 0, none⟩)] (fun x : {x : Nat // x ∈ ins E.R E.C E.ms c ∧ mayF E x = true} => #[.int .i64 ((x.1 : Nat) : Int)]) (StpT E.bm E.gm E.cm E.R E.C E.ms) (KeepP b)
      (fun xs _ => xs.map (·.1) = befL E c) ((ins E.R E.C E.ms c).length) w := by
  intro l J W hW hJ hY h0
  have kW : Kept (fun _ => False) w W := Kept.of_below hW (Nat.le_refl _)
  have hOW := hO.kept kW id id
  obtain ⟨hEW, hts⟩ := hE.keptX kW (fun _ _ => id)
  have h1W := kW.cell h1 id
  have h2W := kW.cell h2 id
  have hpb : ∀ k, PB b W k ↔ PB b w k := pb_still (kW.block b hbb id)
  have hNm : 0 < E.ms.length := hN
  have hl : backZ E.R E.C E.ms (c : Int) = ins E.R E.C E.ms c := by unfold backZ; rw [if_pos (by have : E.N = E.ms.length := rfl; omega)]; rfl
  -- what the call leaves
  have HB : Hid (∀ W2, Kept (fun _ => False) W W2 → EM E.bm E.gm E.cm E.R E.C E.ms W2 → Calls Tryd.prog 96 #[.pointer (some ⟨E.bm, 0, none⟩), .int .i64 (c : Int)] W2 fun e w' => ∃ A cp, e = .returned (.slice A (ins E.R E.C E.ms c).length cp) ∧ BI E b bx A (ins E.R E.C E.ms c) w' ∧ (∀ a, A = some a → a.block < w'.heap.size) ∧ J [] w' ∧ w'.cell? ⟨bc, 0, none⟩ = some (.int .i64 (c : Int))) := by
    intro W2 hk2 hE2
    have := back_x (c : Int) hE2 hNm
    rw [hl] at this
    refine this.mono ?_
    rintro e w' ⟨v, rfl, he, ht, hkp, hrow, hno⟩
    obtain ⟨A, cp, rfl, hia, hav⟩ := row_ints hrow
    have k3 : Kept (fun k => k = E.bm) W w' := (hk2.mono (fun _ _ h => h.elim)).trans hkp (fun _ _ h => h)
    have hpb3 : ∀ k, PB b w' k ↔ PB b w k := fun k => (pb_still (k3.block b (Nat.lt_of_lt_of_le hbb kW.size) (fun e => n8 e.symm)) k).trans (hpb k)
    refine ⟨A, cp, rfl, ⟨hOW.kept k3 (fun e => n5 e.symm) (fun e => n6 e.symm), k3.cell h1W (fun e => n7 e.symm), hia, fun h => n1 ((hpb3 _).1 h), fun h => n2 ((hpb3 _).1 h), fun h => n3 ((hpb3 _).1 h), fun a e h => ?_⟩, fun a e => (hrow.lt _ (hav a e)).2, ?_, k3.cell h2W (fun e => n9 e.symm)⟩
    · have h5 := hb _ ((hpb3 _).1 h)
      have h6 := (hrow.lt _ (hav a e)).1
      have h7 := hk2.size
      have h8 := kW.size
      omega
    · have hx : EmX E.bm E.gm E.cm E.R E.C E.ms W w' := by
        obtain ⟨e2, t2⟩ := hEW.keptX hk2 (fun _ _ => id)
        exact ⟨he, fun k hk => (ht k hk).elim (fun h => .inl (t2 k h)) (fun h => .inr (Nat.le_trans hk2.size h)), k3⟩
      exact hJ _ _ _ h0 (StpT.of_ex hEW hx)
  have HY := Lib.hid hY
  have HJ := Lib.hid hJ
  have f1 := h1W
  have f2 := h2W
  have f3 := hOW.c0
  have HE2 := Lib.hid hEW
  have HM : Hid (∀ (W2 : World), ObjAt E W2 → ∀ x, x < E.N → Calls Tryd.prog 73 #[.pointer (some ⟨E.bs, 0, none⟩), .int .i64 (x : Int)] W2 fun e w' => e = .returned (.bool (mayF E x)) ∧ W2 = w') := fun W2 h x hx => may_any h (by omega) hx
  have HI : Hid (∀ x ∈ ins E.R E.C E.ms c, x < E.N) := fun x hx => by
    exact (ins_mem.1 hx).1
  clear hO hE kW hOW hEW hts h1W h2W hpb hl hY hJ h1 h2 n1 n2 n3 n5 n6 n7 hW hb h0
  refine callsIn_of_wp Tryd.func95 rfl trivial ?_ rfl
  simp only [Tryd.ntmps95, List.size_toArray, List.length_cons, List.length_nil, Nat.reduceAdd, Nat.reduceSub, Array.replicate_succ, Array.replicate_zero, List.push_toArray, List.append_toArray, List.nil_append, List.cons_append]
  refine wpIn_seq (wpIn_wide.2 ?_)
  go_region_held3 (fun W2 => W2.cell? ⟨bx, 0, none⟩ = some (.pointer (some ⟨E.bs, 0, none⟩)) ∧ W2.cell? ⟨bc, 0, none⟩ = some (.int .i64 (c : Int)) ∧ W2.cell? ⟨E.bs, 0, none⟩ = some (.pointer (some ⟨E.bm, 0, none⟩))) (first | exact ⟨f1, f2, f3⟩ | exact ⟨HBI.out.cx, hq, HBI.out.obj.c0⟩) (first | (go_at_call 96; (with_reducible refine (HB.out _ ((Kept.refl _ W).drew) (HE2.out.grown (w' := W.drew) ⟨rfl, rfl, rfl, Nat.le_refl _, fun _ _ _ => rfl⟩)).mono ?_); rintro e w1 ⟨A, cp, rfl, hbi, hal, hj, hq⟩; have HBI := Lib.hid hbi; have HAL := Lib.hid hal; have HJ0 := Lib.hid hj; clear hbi hal hj))
  have HLn := Lib.hid hlen
  clear f1 f2 f3 hq HE2 HB
  obtain ⟨lb, hlb⟩ : ∃ lb, lb = ins E.R E.C E.ms c := ⟨_, rfl⟩
  have HLB := Lib.hid hlb
  rw [← hlb] at HBI HLn
  have hL0 : Hid (lb.length = lb.length) := rfl
  have HS0 : Hid (∃ (k : Nat) (xs : List {x : Nat // x ∈ ins E.R E.C E.ms c ∧ mayF E x = true}), k ≤ lb.length ∧ Value.int .i64 0 = .int .i64 (k : Int) ∧ xs.map (·.1) = (lb.take k).filter (mayF E) ∧ J xs w1 ∧ BI E b bx A lb w1 ∧ (∀ a, A = some a → a.block < w1.heap.size)) :=
    ⟨0, [], Nat.zero_le _, rfl, by simp, HJ0.out, HBI.out, HAL.out⟩
  obtain ⟨L, hL⟩ : ∃ L, L = lb.length := ⟨_, rfl⟩
  have HL := Lib.hid hL
  have hL2 : (ins E.R E.C E.ms c).length = L := by rw [hL, hlb]
  rw [hL2]
  rw [hL2] at HY
  rw [← hL] at HS0
  have hLb : L ≤ 1024 := by rw [hL]; exact HLn.out
  clear hlb hL0 HBI HAL HJ0 hL hL2 hlen
  gi_wp2
  gi_loopw [13] (fun i wr => ∃ (k : Nat) (xs : List {x : Nat // x ∈ ins E.R E.C E.ms c ∧ mayF E x = true}), k ≤ L ∧ i = .int .i64 (k : Int) ∧ xs.map (·.1) = (lb.take k).filter (mayF E) ∧ J xs wr ∧ BI E b bx A lb wr ∧ (∀ a, A = some a → a.block < wr.heap.size)) (fun i _ => L - (intOf i).toNat)
  case atStart => exact HS0.out
  case round =>
    obtain ⟨k, xs, hk, rfl, hxs, hj, hbi, hal⟩ := hrel
    clear HS0
    have HBI := Lib.hid hbi
    have HJk := Lib.hid hj
    have HXS := Lib.hid hxs
    have HAL := Lib.hid hal
    have hxl : xs.length ≤ k := by
      have := congrArg List.length hxs
      have h2 := List.length_filter_le (mayF E) (lb.take k)
      simp at this h2
      omega
    by_cases hlt : k < L
    · have hkl : k < lb.length := by rw [← HL.out]; exact hlt
      obtain ⟨a, rfl, fy⟩ := ints_at hbi.li (j := k) (by rw [intsQ_length]; exact hkl)
      obtain ⟨y, hy⟩ : ∃ y, lb[k]? = some y := ⟨_, List.getElem?_eq_getElem hkl⟩
      have hgy : (intsQ lb).getD k 0 = (y : Int) := by simp [intsQ, List.getD, hy]
      rw [hgy] at fy
      have hym : y ∈ ins E.R E.C E.ms c := by rw [← HLB.out]; exact List.mem_of_getElem? hy
      have htk : lb.take (k + 1) = lb.take k ++ [y] := by rw [List.take_add_one, hy]; rfl
      have HMY := Lib.hid (HM.out wr hbi.obj y (HI.out y hym))
      have fx := hbi.cx
      have k0 : (0 : Int) ≤ (k : Int) := by omega
      have k1 : (k : Int) < (L : Int) := by omega
      have hwr : IntKind.i64.wrap ((k : Int) + 1) = (k : Int) + 1 := IntWalk.i64_in _ (by omega)
      have HWK := Lib.hid hwr
      cases hm : mayF E y with
      | false =>
        have HR : Hid (∃ (k' : Nat) (xs : List {x : Nat // x ∈ ins E.R E.C E.ms c ∧ mayF E x = true}), k' ≤ L ∧ Value.int .i64 ((k : Int) + 1) = .int .i64 (k' : Int) ∧ xs.map (·.1) = (lb.take k').filter (mayF E) ∧ J xs wr ∧ BI E b bx (some a) lb wr ∧ (∀ a', some a = some a' → a'.block < wr.heap.size)) :=
          ⟨k + 1, xs, by omega, by go_num, by rw [htk, List.filter_append, HXS.out]; simp [hm], HJk.out, HBI.out, HAL.out⟩
        rw [hm] at HMY
        clear hbi hj hxs hal hgy hy hym htk hkl hm HJk HXS
        gi_wp2_with fail
        refine ⟨trivial, (callsIn_wide.2 HMY.out).mono ?_⟩
        rintro e w' ⟨rfl, rfl⟩
        gi_wp2
        refine ⟨fun _ h => (by cases h), ?_⟩
        gi_wp2
        go_roundw
        case rel => exact HR.out
        case measure => simp [intOf]; omega
      | true =>
        have hyt := HY.out xs ⟨y, hym, hm⟩ wr hj (by omega)
        obtain ⟨fn, tmps, assign, body, hrun, hR⟩ := hyt
        have hxs2 : (xs ++ [(⟨y, hym, hm⟩ : {x : Nat // x ∈ ins E.R E.C E.ms c ∧ mayF E x = true})]).map (·.1) = (lb.take (k + 1)).filter (mayF E) := by
          rw [htk, List.filter_append, List.map_append, HXS.out]; simp [hm]
        have HXS2 := Lib.hid hxs2
        have HR2 := Lib.hid hR
        rw [hm] at HMY
        clear hbi hj hxs hal hgy hy htk hkl HJk HXS hxs2 hR
        gi_wp2_with fail
        refine ⟨trivial, (callsIn_wide.2 HMY.out).mono ?_⟩
        rintro e w' ⟨rfl, rfl⟩
        gi_wp2
        refine HR2.out.mono ?_
        rintro e W' ⟨rfl, hJ', hk'⟩
        have HR : Hid (∃ (k' : Nat) (xs : List {x : Nat // x ∈ ins E.R E.C E.ms c ∧ mayF E x = true}), k' ≤ L ∧ Value.int .i64 ((k : Int) + 1) = .int .i64 (k' : Int) ∧ xs.map (·.1) = (lb.take k').filter (mayF E) ∧ J xs W' ∧ BI E b bx (some a) lb W' ∧ (∀ a', some a = some a' → a'.block < W'.heap.size)) :=
          ⟨k + 1, _, by omega, by go_num, HXS2.out, hJ', HBI.out.keep hk' HAL.out, fun a' e => Nat.lt_of_lt_of_le (HAL.out a' e) hk'.size⟩
        clear hJ' hk' HXS2
        gi_wp2
        go_roundw
        case rel => exact HR.out
        case measure => simp [intOf]; omega
    · obtain rfl : k = L := by omega
      have HF : Hid ((∃ v, Ending.returned (.tuple #[]) = .returned v) ∧ ∃ xs : List {x : Nat // x ∈ ins E.R E.C E.ms c ∧ mayF E x = true}, xs.map (·.1) = befL E c ∧ J xs wr) :=
        ⟨⟨_, rfl⟩, xs, by
          rw [HXS.out, List.take_of_length_le (by rw [← HL.out]; exact Nat.le_refl _)]
          unfold befL
          rw [HLB.out], HJk.out⟩
      clear hbi hj hxs hal
      gi_wp2
      exact bodyPost_end (results_none rfl _ _ _) rfl HF.out
end Go.Proofs.YtkedjnhidfnlkaaDoor
