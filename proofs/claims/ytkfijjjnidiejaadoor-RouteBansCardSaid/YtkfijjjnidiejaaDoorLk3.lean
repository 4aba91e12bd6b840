/- Joined texts: Lk1, Lk2, Lk3. -/
import Derived.Test.YtkfijjjnidiejaaDoorQ2
import Derived.Test.YtkfijjjnidiejaaDoorRt1
import Derived.Test.YtkfijjjnidiejaaDoorRange2
import Derived.RangeFuncBound
import Derived.Shelf.Abstract
import Derived.Shelf.RegionOpen
import Derived.OwnWalkIn
import Derived.TacticsInMore
import Derived.LoopNIn
import Derived.LoopIn
import Derived.Deep.QuietTactic
import Derived.BigQuiet
import Derived.Sort.QuietIn
import Derived.Stop.RegionWithIn
import Derived.RangeFuncNested
import Derived.Scope

/-
  look: the iterator of the cells from which a route may step into one.
-/
namespace Go.Proofs.YtkfijjjnidiejaaDoor
set_option maxRecDepth 100000
open Go Go.RowKit Rq
attribute [local go_sem] Oper.semAt_some

theorem ins_mem {R C : Nat} {ms : List UInt8} {i u : Nat} : i ∈ ins R C ms u ↔ i < ms.length ∧ u ∈ outs R C ms i := by
  unfold ins
  rw [List.mem_filter, List.mem_range, decide_eq_true_eq]
theorem ins_far {R C : Nat} {ms : List UInt8} (hC : 1 ≤ C) (hN : R * C = ms.length) {i u : Nat} (h : i ∈ ins R C ms u) : i < ms.length ∧ u < ms.length ∧ apartZ ((i / C : Nat) : Int) ((u / C : Nat) : Int) + apartZ ((i % C : Nat) : Int) ((u % C : Nat) : Int) = 1 := by
  obtain ⟨h1, h2⟩ := ins_mem.1 h
  obtain ⟨h3, h4, _⟩ := out_facts hC hN h1 h2
  unfold farZ at h4
  rw [if_pos (by omega)] at h4
  exact ⟨h1, h3, h4⟩
theorem ins_side {R C : Nat} {ms : List UInt8} (hC : 1 ≤ C) (hN : R * C = ms.length) {i u : Nat} (h : i ∈ ins R C ms u) : i ∈ [u - 1, u + 1, u - C, u + C] := by
  obtain ⟨_, _, h3⟩ := ins_far hC hN h
  have e1 := Nat.div_add_mod i C
  have e2 := Nat.div_add_mod u C
  unfold apartZ at h3
  simp only [List.mem_cons, List.not_mem_nil, or_false]
  have hq : i / C = u / C ∨ i / C = u / C + 1 ∨ u / C = i / C + 1 := by omega
  rcases hq with hq | hq | hq
  · rw [hq] at e1 h3
    omega
  · rw [hq] at e1 h3
    rw [Nat.mul_add] at e1
    omega
  · rw [hq] at e2 h3
    rw [Nat.mul_add] at e2
    omega
theorem ins_len4 {R C : Nat} {ms : List UInt8} (hC : 1 ≤ C) (hN : R * C = ms.length) (u : Nat) : (ins R C ms u).length ≤ 4 := by
  have hnd : (ins R C ms u).Nodup := (List.nodup_range).sublist List.filter_sublist
  have := List.Nodup.length_le_of_subset hnd (fun x hx => ins_side hC hN hx)
  simpa using this

/-- The blocks of the pile at b, as it lies. -/
def PB (b : Nat) (w : World) (k : Nat) : Prop := k = b ∨ ∃ v, w.cell? ⟨b, 0, none⟩ = some v ∧ v.ownBlock = some k
theorem PileS.pb {w : World} {b : Nat} {r : Option Nat} {s : List Pq.It} (h : PileS w b 0 r s) (k : Nat) : PB b w k ↔ Of b r k := by
  obtain ⟨l, ⟨v, hc, hf, hr, _⟩, _⟩ := h
  constructor
  · rintro (e | ⟨v', h1, h2⟩)
    · exact .inl e
    · rw [hc] at h1; cases h1; exact .inr (by rw [← hr, h2])
  · rintro (e | e)
    · exact .inl e
    · exact .inr ⟨v, hc, by rw [hr, e]⟩

/-- What a round keeps: all cells but the pile's. -/
structure KeepP (b : Nat) (A B : World) : Prop where
  size : A.heap.size ≤ B.heap.size
  blk : ∀ (k : Nat) (o : Obj), A.heap[k]? = some o → o.isCells = true → ¬ PB b A k → B.heap[k]? = some o
  pb : ∀ k, PB b B k → PB b A k ∨ A.heap.size ≤ k
theorem KeepP.refl (b : Nat) (A : World) : KeepP b A A := ⟨Nat.le_refl _, fun _ _ h _ _ => h, fun _ h => .inl h⟩
theorem KeepP.trans {b : Nat} {A B C : World} (h : KeepP b A B) (k : KeepP b B C) : KeepP b A C :=
  ⟨Nat.le_trans h.size k.size, fun i o hi hc hn => k.blk i o (h.blk i o hi hc hn) hc (fun hp => (h.pb i hp).elim hn (fun h1 => by have := blk_lt hi; omega)),
    fun i hi => (k.pb i hi).elim (h.pb i) (fun h1 => .inr (Nat.le_trans h.size h1))⟩
theorem KeepP.cell {b : Nat} {A B : World} (h : KeepP b A B) {p : Addr} {v : Value} (hv : A.cell? p = some v) (hn : ¬ PB b A p.block) : B.cell? p = some v := by
  have hlt := World.block_lt_of_cell? A p hv
  have ho : A.heap[p.block]? = some A.heap[p.block] := Array.getElem?_eq_getElem hlt
  exact (World.cell?_of_block ((h.blk _ _ ho (cells_of_cell hv ho) hn).trans ho.symm)).trans hv
theorem KeepP.still {b : Nat} {A B : World} (h : KeepP b A B) {k : Nat} (hk : k < A.heap.size) (hn : ¬ PB b A k) : ¬ PB b B k := fun hp => (h.pb k hp).elim hn (fun h1 => by omega)
theorem pb_still {b : Nat} {W W' : World} (h : W'.heap[b]? = W.heap[b]?) (k : Nat) : PB b W' k ↔ PB b W k := by
  unfold PB
  rw [World.cell?_of_block (a := ⟨b, 0, none⟩) h]
theorem KeepP.putObj {b : Nat} (W : World) {l : Nat} {o : Obj} (o' : Obj) (hl : W.heap[l]? = some o) (hc : o.isCells = false) (hb : b ≠ l) : KeepP b W (W.putObj l o') := by
  refine ⟨by simp [World.putObj], fun k x hk hx _ => ?_, fun k hk => .inl ((pb_still (World.putObj_heap_other hb) k).1 hk)⟩
  rw [World.putObj_heap_other (by rintro rfl; rw [hl] at hk; cases hk; rw [hc] at hx; cases hx)]
  exact hk
theorem KeepP.of_kept {b : Nat} {A B : World} {X : Nat → Prop} (h : Kept X A B) (hb : b < A.heap.size) (hX : ∀ k, X k → False) : KeepP b A B :=
  ⟨h.size, fun k _ hk _ _ => (h.block k (blk_lt hk) (hX k)).trans hk, fun k hk => .inl ((pb_still (h.block b hb (hX b)) k).1 hk)⟩

/-- The iterator's own steps. -/
structure StpT (bm gm cm R C : Nat) (ms : List UInt8) (A B : World) : Prop where
  ex : EmX bm gm cm R C ms A B
  non : ∀ (k : Nat) (o : Obj), A.heap[k]? = some o → o.isCells = false → B.heap[k]? = some o
theorem StpT.of_ex {bm gm cm R C : Nat} {ms : List UInt8} {A B : World} (hE : EM bm gm cm R C ms A) (h : EmX bm gm cm R C ms A B) : StpT bm gm cm R C ms A B := by
  refine ⟨h, fun k o hk hc => (h.kp.block k (blk_lt hk) (fun e => ?_)).trans hk⟩
  subst e
  rw [cells_of_cell hE.c0 hk] at hc
  cases hc

/-- What the iterator reads all along. -/
structure BI (E : Env) (b bx : Nat) (A : Option Addr) (l : List Nat) (W : World) : Prop where
  obj : ObjAt E W
  cx : W.cell? ⟨bx, 0, none⟩ = some (.pointer (some ⟨E.bs, 0, none⟩))
  li : IntsAt W A (intsQ l)
  n1 : ¬ PB b W E.bs
  n2 : ¬ PB b W E.bb
  n3 : ¬ PB b W bx
  n4 : ∀ a, A = some a → ¬ PB b W a.block
theorem BI.keep {E : Env} {b bx : Nat} {A : Option Addr} {l : List Nat} {W W' : World} (h : BI E b bx A l W) (hk : KeepP b W W') (hA : ∀ a, A = some a → a.block < W.heap.size) : BI E b bx A l W' := by
  refine ⟨⟨hk.cell h.obj.c0 h.n1, hk.cell h.obj.c1 h.n1, hk.cell h.obj.c2 h.n1, hk.cell h.obj.c3 h.n1, hk.cell h.obj.c4 h.n1, hk.blk _ _ h.obj.bans rfl h.n2⟩, hk.cell h.cx h.n3, fun j hj => ?_,
    hk.still (World.block_lt_of_cell? W ⟨E.bs, 0, none⟩ h.obj.c0) h.n1, hk.still (blk_lt h.obj.bans) h.n2, hk.still (World.block_lt_of_cell? W ⟨bx, 0, none⟩ h.cx) h.n3, fun a e => hk.still (hA a e) (h.n4 a e)⟩
  obtain ⟨a, e, h1, h2⟩ := h.li j hj
  have hbk : (a.add j).block = a.block := by unfold Addr.add; split <;> rfl
  exact ⟨a, e, Nat.lt_of_lt_of_le h1 hk.size, hk.cell h2 (by rw [hbk]; exact h.n4 a e)⟩

/-- The cells from which a route may step into c. -/
def befL (E : Env) (c : Nat) : List Nat := (ins E.R E.C E.ms c).filter (mayF E)

set_option maxHeartbeats 2000000 in
theorem before_tells (n : Nat) (hn : 1 ≤ n) (E : Env) (bx bc b c : Nat) (w : World) (hO : ObjAt E w) (hE : EM E.bm E.gm E.cm E.R E.C E.ms w) (hN : 0 < E.N) (hN2 : E.N ≤ 1024) (hcN : c < E.N)
    (h1 : w.cell? ⟨bx, 0, none⟩ = some (.pointer (some ⟨E.bs, 0, none⟩))) (h2 : w.cell? ⟨bc, 0, none⟩ = some (.int .i64 (c : Int)))
    (hb : ∀ k, PB b w k → k < w.heap.size) (hbb : b < w.heap.size) (n1 : ¬ PB b w E.bs) (n2 : ¬ PB b w E.bb) (n3 : ¬ PB b w bx) (n5 : E.bm ≠ E.bs) (n6 : E.bm ≠ E.bb) (n7 : E.bm ≠ bx) (n8 : E.bm ≠ b) (n9 : E.bm ≠ bc) (hlen : (ins E.R E.C E.ms c).length ≤ 1024) :
    Tells n Tryd.prog 66 #[.pointer (some ⟨bx, 0, none⟩), .pointer (some ⟨bc, 0, none⟩)] (fun x : {x : Nat // x ∈ ins E.R E.C E.ms c ∧ mayF E x = true} => #[.int .i64 ((x.1 : Nat) : Int)]) (StpT E.bm E.gm E.cm E.R E.C E.ms) (KeepP b)
      (fun xs _ => xs.map (·.1) = befL E c) ((ins E.R E.C E.ms c).length) w := by
  intro l J W hW hJ hY h0
  have kW : Kept (fun _ => False) w W := Kept.of_below hW (Nat.le_refl _)
  have hOW := hO.kept kW id id
  obtain ⟨hEW, hts⟩ := hE.keptX kW (fun _ _ => id)
  have h1W := kW.cell h1 id
  have h2W := kW.cell h2 id
  have hpb : ∀ k, PB b W k ↔ PB b w k := pb_still (kW.block b hbb id)
  have hNm : 0 < E.ms.length := hN
  have hl : backZ E.R E.C E.ms (c : Int) = ins E.R E.C E.ms c := by unfold backZ; rw [if_pos (by have : E.N = E.ms.length := rfl; omega)]; rfl
  -- what the call leaves
  have HB : Hid (∀ W2, Kept (fun _ => False) W W2 → EM E.bm E.gm E.cm E.R E.C E.ms W2 → Calls Tryd.prog 67 #[.pointer (some ⟨E.bm, 0, none⟩), .int .i64 (c : Int)] W2 fun e w' => ∃ A cp, e = .returned (.slice A (ins E.R E.C E.ms c).length cp) ∧ BI E b bx A (ins E.R E.C E.ms c) w' ∧ (∀ a, A = some a → a.block < w'.heap.size) ∧ J [] w' ∧ w'.cell? ⟨bc, 0, none⟩ = some (.int .i64 (c : Int))) := by
    intro W2 hk2 hE2
    have := back_x (c : Int) hE2 hNm
    rw [hl] at this
    refine this.mono ?_
    rintro e w' ⟨v, rfl, he, ht, hkp, hrow, hno⟩
    obtain ⟨A, cp, rfl, hia, hav⟩ := row_ints hrow
    have k3 : Kept (fun k => k = E.bm) W w' := (hk2.mono (fun _ _ h => h.elim)).trans hkp (fun _ _ h => h)
    have hpb3 : ∀ k, PB b w' k ↔ PB b w k := fun k => (pb_still (k3.block b (Nat.lt_of_lt_of_le hbb kW.size) (fun e => n8 e.symm)) k).trans (hpb k)
    refine ⟨A, cp, rfl, ⟨hOW.kept k3 (fun e => n5 e.symm) (fun e => n6 e.symm), k3.cell h1W (fun e => n7 e.symm), hia, fun h => n1 ((hpb3 _).1 h), fun h => n2 ((hpb3 _).1 h), fun h => n3 ((hpb3 _).1 h), fun a e h => ?_⟩, fun a e => (hrow.lt _ (hav a e)).2, ?_, k3.cell h2W (fun e => n9 e.symm)⟩
    · have h5 := hb _ ((hpb3 _).1 h)
      have h6 := (hrow.lt _ (hav a e)).1
      have h7 := hk2.size
      have h8 := kW.size
      omega
    · have hx : EmX E.bm E.gm E.cm E.R E.C E.ms W w' := by
        obtain ⟨e2, t2⟩ := hEW.keptX hk2 (fun _ _ => id)
        exact ⟨he, fun k hk => (ht k hk).elim (fun h => .inl (t2 k h)) (fun h => .inr (Nat.le_trans hk2.size h)), k3⟩
      exact hJ _ _ _ h0 (StpT.of_ex hEW hx)
  have HY := Lib.hid hY
  have HJ := Lib.hid hJ
  have f1 := h1W
  have f2 := h2W
  have f3 := hOW.c0
  have HE2 := Lib.hid hEW
  have HM : Hid (∀ (W2 : World), ObjAt E W2 → ∀ x, x < E.N → Calls Tryd.prog 47 #[.pointer (some ⟨E.bs, 0, none⟩), .int .i64 (x : Int)] W2 fun e w' => e = .returned (.bool (mayF E x)) ∧ W2 = w') := fun W2 h x hx => may_any h (by omega) hx
  have HI : Hid (∀ x ∈ ins E.R E.C E.ms c, x < E.N) := fun x hx => by
    exact (ins_mem.1 hx).1
  clear hO hE kW hOW hEW hts h1W h2W hpb hl hY hJ h1 h2 n1 n2 n3 n5 n6 n7 hW hb h0
  refine callsIn_of_wp Tryd.func66 rfl trivial ?_ rfl
  simp only [Tryd.ntmps66, List.size_toArray, List.length_cons, List.length_nil, Nat.reduceAdd, Nat.reduceSub, Array.replicate_succ, Array.replicate_zero, List.push_toArray, List.append_toArray, List.nil_append, List.cons_append]
  refine wpIn_seq (wpIn_wide.2 ?_)
  go_region_held3 (fun W2 => W2.cell? ⟨bx, 0, none⟩ = some (.pointer (some ⟨E.bs, 0, none⟩)) ∧ W2.cell? ⟨bc, 0, none⟩ = some (.int .i64 (c : Int)) ∧ W2.cell? ⟨E.bs, 0, none⟩ = some (.pointer (some ⟨E.bm, 0, none⟩))) (first | exact ⟨f1, f2, f3⟩ | exact ⟨HBI.out.cx, hq, HBI.out.obj.c0⟩) (first | (go_at_call 67; (with_reducible refine (HB.out _ ((Kept.refl _ W).drew) (HE2.out.grown (w' := W.drew) ⟨rfl, rfl, rfl, Nat.le_refl _, fun _ _ _ => rfl⟩)).mono ?_); rintro e w1 ⟨A, cp, rfl, hbi, hal, hj, hq⟩; have HBI := Lib.hid hbi; have HAL := Lib.hid hal; have HJ0 := Lib.hid hj; clear hbi hal hj))
  have HLn := Lib.hid hlen
  clear f1 f2 f3 hq HE2 HB
  obtain ⟨lb, hlb⟩ : ∃ lb, lb = ins E.R E.C E.ms c := ⟨_, rfl⟩
  have HLB := Lib.hid hlb
  rw [← hlb] at HBI HLn
  have hL0 : Hid (lb.length = lb.length) := rfl
  have HS0 : Hid (∃ (k : Nat) (xs : List {x : Nat // x ∈ ins E.R E.C E.ms c ∧ mayF E x = true}), k ≤ lb.length ∧ Value.int .i64 0 = .int .i64 (k : Int) ∧ xs.map (·.1) = (lb.take k).filter (mayF E) ∧ J xs w1 ∧ BI E b bx A lb w1 ∧ (∀ a, A = some a → a.block < w1.heap.size)) :=
    ⟨0, [], Nat.zero_le _, rfl, by simp, HJ0.out, HBI.out, HAL.out⟩
  obtain ⟨L, hL⟩ : ∃ L, L = lb.length := ⟨_, rfl⟩
  have HL := Lib.hid hL
  have hL2 : (ins E.R E.C E.ms c).length = L := by rw [hL, hlb]
  rw [hL2]
  rw [hL2] at HY
  rw [← hL] at HS0
  have hLb : L ≤ 1024 := by rw [hL]; exact HLn.out
  clear hlb hL0 HBI HAL HJ0 hL hL2 hlen
  gi_wp2
  gi_loopw [13] (fun i wr => ∃ (k : Nat) (xs : List {x : Nat // x ∈ ins E.R E.C E.ms c ∧ mayF E x = true}), k ≤ L ∧ i = .int .i64 (k : Int) ∧ xs.map (·.1) = (lb.take k).filter (mayF E) ∧ J xs wr ∧ BI E b bx A lb wr ∧ (∀ a, A = some a → a.block < wr.heap.size)) (fun i _ => L - (intOf i).toNat)
  case atStart => exact HS0.out
  case round =>
    obtain ⟨k, xs, hk, rfl, hxs, hj, hbi, hal⟩ := hrel
    clear HS0
    have HBI := Lib.hid hbi
    have HJk := Lib.hid hj
    have HXS := Lib.hid hxs
    have HAL := Lib.hid hal
    have hxl : xs.length ≤ k := by
      have := congrArg List.length hxs
      have h2 := List.length_filter_le (mayF E) (lb.take k)
      simp at this h2
      omega
    by_cases hlt : k < L
    · have hkl : k < lb.length := by rw [← HL.out]; exact hlt
      obtain ⟨a, rfl, fy⟩ := ints_at hbi.li (j := k) (by rw [intsQ_length]; exact hkl)
      obtain ⟨y, hy⟩ : ∃ y, lb[k]? = some y := ⟨_, List.getElem?_eq_getElem hkl⟩
      have hgy : (intsQ lb).getD k 0 = (y : Int) := by simp [intsQ, List.getD, hy]
      rw [hgy] at fy
      have hym : y ∈ ins E.R E.C E.ms c := by rw [← HLB.out]; exact List.mem_of_getElem? hy
      have htk : lb.take (k + 1) = lb.take k ++ [y] := by rw [List.take_add_one, hy]; rfl
      have HMY := Lib.hid (HM.out wr hbi.obj y (HI.out y hym))
      have fx := hbi.cx
      have k0 : (0 : Int) ≤ (k : Int) := by omega
      have k1 : (k : Int) < (L : Int) := by omega
      have hwr : IntKind.i64.wrap ((k : Int) + 1) = (k : Int) + 1 := IntWalk.i64_in _ (by omega)
      have HWK := Lib.hid hwr
      cases hm : mayF E y with
      | false =>
        have HR : Hid (∃ (k' : Nat) (xs : List {x : Nat // x ∈ ins E.R E.C E.ms c ∧ mayF E x = true}), k' ≤ L ∧ Value.int .i64 ((k : Int) + 1) = .int .i64 (k' : Int) ∧ xs.map (·.1) = (lb.take k').filter (mayF E) ∧ J xs wr ∧ BI E b bx (some a) lb wr ∧ (∀ a', some a = some a' → a'.block < wr.heap.size)) :=
          ⟨k + 1, xs, by omega, by go_num, by rw [htk, List.filter_append, HXS.out]; simp [hm], HJk.out, HBI.out, HAL.out⟩
        rw [hm] at HMY
        clear hbi hj hxs hal hgy hy hym htk hkl hm HJk HXS
        gi_wp2_with fail
        refine ⟨trivial, (callsIn_wide.2 HMY.out).mono ?_⟩
        rintro e w' ⟨rfl, rfl⟩
        gi_wp2
        refine ⟨fun _ h => (by cases h), ?_⟩
        gi_wp2
        go_roundw
        case rel => exact HR.out
        case measure => simp [intOf]; omega
      | true =>
        have hyt := HY.out xs ⟨y, hym, hm⟩ wr hj (by omega)
        obtain ⟨fn, tmps, assign, body, hrun, hR⟩ := hyt
        have hxs2 : (xs ++ [(⟨y, hym, hm⟩ : {x : Nat // x ∈ ins E.R E.C E.ms c ∧ mayF E x = true})]).map (·.1) = (lb.take (k + 1)).filter (mayF E) := by
          rw [htk, List.filter_append, List.map_append, HXS.out]; simp [hm]
        have HXS2 := Lib.hid hxs2
        have HR2 := Lib.hid hR
        rw [hm] at HMY
        clear hbi hj hxs hal hgy hy htk hkl HJk HXS hxs2 hR
        gi_wp2_with fail
        refine ⟨trivial, (callsIn_wide.2 HMY.out).mono ?_⟩
        rintro e w' ⟨rfl, rfl⟩
        gi_wp2
        refine HR2.out.mono ?_
        rintro e W' ⟨rfl, hJ', hk'⟩
        have HR : Hid (∃ (k' : Nat) (xs : List {x : Nat // x ∈ ins E.R E.C E.ms c ∧ mayF E x = true}), k' ≤ L ∧ Value.int .i64 ((k : Int) + 1) = .int .i64 (k' : Int) ∧ xs.map (·.1) = (lb.take k').filter (mayF E) ∧ J xs W' ∧ BI E b bx (some a) lb W' ∧ (∀ a', some a = some a' → a'.block < W'.heap.size)) :=
          ⟨k + 1, _, by omega, by go_num, HXS2.out, hJ', HBI.out.keep hk' HAL.out, fun a' e => Nat.lt_of_lt_of_le (HAL.out a' e) hk'.size⟩
        clear hJ' hk' HXS2
        gi_wp2
        go_roundw
        case rel => exact HR.out
        case measure => simp [intOf]; omega
    · obtain rfl : k = L := by omega
      have HF : Hid ((∃ v, Ending.returned (.tuple #[]) = .returned v) ∧ ∃ xs : List {x : Nat // x ∈ ins E.R E.C E.ms c ∧ mayF E x = true}, xs.map (·.1) = befL E c ∧ J xs wr) :=
        ⟨⟨_, rfl⟩, xs, by
          rw [HXS.out, List.take_of_length_le (by rw [← HL.out]; exact Nat.le_refl _)]
          unfold befL
          rw [HLB.out], HJk.out⟩
      clear hbi hj hxs hal
      gi_wp2
      exact bodyPost_end (results_none rfl _ _ _) rfl HF.out
end Go.Proofs.YtkfijjjnidiejaaDoor

/-
  look: what stands in its loop, from step to step.
-/
namespace Go.Proofs.YtkfijjjnidiejaaDoor
set_option maxRecDepth 100000
open Go Go.RowKit Rq

theorem EM.tcells {bm gm cm R C : Nat} {ms : List UInt8} {w : World} (h : EM bm gm cm R C ms w) (hN : 0 < ms.length) : ∀ k, TS bm gm w k → ∀ o, w.heap[k]? = some o → o.isCells = true := by
  rintro k hk o ho
  rcases hk with rfl | rfl | rfl | ⟨f, hf, q, n, c, hc, hh⟩
  · exact cells_of_cell (h.ways 0 _ rfl) ho
  · exact cells_of_cell h.c0 ho
  · exact cells_of_cell (h.mark 0 hN) ho
  · rcases h.st with hr' | hd
    · rcases hf with rfl | rfl <;> (rw [blk_cell hr'] at hc; simp [cellsE] at hc)
    · obtain ⟨B, gn, gb, T, hM, h6, h7⟩ := hd.tables
      cases hcl : o.isCells with
      | true => rfl
      | false =>
        rcases hf with rfl | rfl
        · rw [h6] at hc
          simp only [Option.some.injEq, Value.slice.injEq] at hc
          obtain ⟨rfl, rfl, _⟩ := hc
          rcases hh with rfl | ⟨j, hj, v, hv, hvk⟩
          · have h1 := hM.cell 0 (by omega)
            rw [loc_lo hN] at h1
            have := cells_of_cell h1 ho
            rw [hcl] at this; cases this
          · have h1 := hM.cell j (by omega)
            rw [loc_lo hj] at h1
            obtain rfl := Option.some.inj (h1.symm.trans hv)
            exact absurd hvk (not_own (hM.own j (by omega)) ho hcl)
        · rw [h7] at hc
          simp only [Option.some.injEq, Value.slice.injEq] at hc
          obtain ⟨rfl, rfl, _⟩ := hc
          rcases hh with rfl | ⟨j, hj, v, hv, hvk⟩
          · have h1 := hM.cell (ms.length + 0) (by omega)
            rw [loc_hi] at h1
            have := cells_of_cell h1 ho
            rw [hcl] at this; cases this
          · have h1 := hM.cell (ms.length + j) (by omega)
            rw [loc_hi] at h1
            obtain rfl := Option.some.inj (h1.symm.trans hv)
            exact absurd hvk (not_own (hM.own (ms.length + j) (by omega)) ho hcl)

theorem PileS.cells {w : World} {b j : Nat} {r : Option Nat} {s : List Pq.It} (h : PileS w b j r s) {k : Nat} (hk : Of b r k) {o : Obj} (ho : w.heap[k]? = some o) : o.isCells = true := by
  obtain ⟨l, ⟨v, hc, hf, hr, hne, hown⟩, _⟩ := h
  rcases hk with rfl | hkr
  · exact cells_of_cell hc ho
  · cases hcl : o.isCells with
    | true => rfl
    | false =>
      rcases hown.2 with ⟨rfl, _⟩ | ⟨g, cap, cur, rfl, _, hg, _⟩
      · rw [← hr] at hkr; cases hkr
      · rw [← hr] at hkr
        have : k = g := by simpa [Value.ownBlock] using hkr
        subst this
        rw [ho] at hg
        cases hg
        cases hcl

/-- What look begins with. -/
structure LoH (E : Env) (w0 : World) : Prop where
  obj : ObjAt E w0
  em : EM E.bm E.gm E.cm E.R E.C E.ms w0
  map : MapM w0 E.m []
  fr : E.fr < E.N
  to_ : E.to_ < E.N
  n1 : E.bm ≠ E.bs
  n2 : E.bm ≠ E.bb
  n3 : E.bm ≠ E.m
  n4 : E.m ≠ E.bs
  n5 : E.m ≠ E.bb
  tm : ∀ k, TS E.bm E.gm w0 k → k ≠ E.m ∧ k ≠ E.bs ∧ k ≠ E.bb

/-- What stands in its loop: cells met, items that wait. -/
structure Lo (E : Env) (w0 : World) (M : List (Nat × Nat)) (s : List Pq.It) (W : World) : Prop where
  obj : ObjAt E W
  em : EM E.bm E.gm E.cm E.R E.C E.ms W
  ts : ∀ k, TS E.bm E.gm W k → TS E.bm E.gm w0 k ∨ w0.heap.size + 5 ≤ k
  map : MapM W E.m M
  c2 : W.cell? ⟨w0.heap.size, 0, none⟩ = some (.pointer (some ⟨E.bs, 0, none⟩))
  cl : W.cell? ⟨w0.heap.size + 2, 0, none⟩ = some (.pointer (some ⟨E.bs, 0, none⟩))
  c6 : W.cell? ⟨w0.heap.size + 3, 0, none⟩ = some (.func (.func 62) #[] #[.pointer (some ⟨w0.heap.size + 2, 0, none⟩)])
  c7 : W.cell? ⟨w0.heap.size + 4, 0, none⟩ = some (.func (.func 45) #[] #[.pointer (some ⟨w0.heap.size + 1, 0, none⟩), .pointer (some ⟨w0.heap.size + 3, 0, none⟩)])
  pile : ∃ r, PileS W (w0.heap.size + 1) 0 r s ∧ (∀ k, some k = r → w0.heap.size + 5 ≤ k) ∧ ∀ k, TS E.bm E.gm W k → ¬ Of (w0.heap.size + 1) r k
  kp : Kept (fun k => k = E.bm ∨ k = E.m) w0 W
  sz : w0.heap.size + 5 ≤ W.heap.size

section
variable {E : Env} {w0 W W' : World} {M M' : List (Nat × Nat)} {s s' : List Pq.It}

theorem LoH.N (H : LoH E w0) : E.N ≤ 1024 := by
  have h1 : E.N = E.ms.length := rfl
  rw [h1, ← H.em.hN]
  exact Nat.mul_le_mul H.em.hR H.em.hC2
theorem LoH.lts (H : LoH E w0) : E.bs < w0.heap.size ∧ E.bb < w0.heap.size ∧ E.m < w0.heap.size ∧ E.bm < w0.heap.size :=
  ⟨World.block_lt_of_cell? w0 ⟨E.bs, 0, none⟩ H.obj.c0, blk_lt H.obj.bans, H.map.lt, World.block_lt_of_cell? w0 ⟨E.bm, 0, none⟩ H.em.c0⟩

theorem Lo.turn (h : Lo E w0 M s W) {X : Nat → Prop} (hk : Kept X W W') (hf : ∀ k, X k → k ≠ E.bs ∧ k ≠ E.bb ∧ k ≠ w0.heap.size ∧ k ≠ w0.heap.size + 2 ∧ k ≠ w0.heap.size + 3 ∧ k ≠ w0.heap.size + 4) (hts : ∀ k, TS E.bm E.gm W k → ¬ X k) (hx : ∀ k, X k → k < w0.heap.size → k = E.m)
    (hm : MapM W' E.m M') (hp : ∃ r, PileS W' (w0.heap.size + 1) 0 r s' ∧ (∀ k, some k = r → w0.heap.size + 5 ≤ k) ∧ ∀ k, TS E.bm E.gm W k → ¬ Of (w0.heap.size + 1) r k) : Lo E w0 M' s' W' := by
  obtain ⟨e1, t1⟩ := h.em.keptX hk hts
  obtain ⟨r, p1, p2, p3⟩ := hp
  exact ⟨h.obj.kept hk (fun e => (hf _ e).1 rfl) (fun e => (hf _ e).2.1 rfl), e1, fun k hk' => h.ts k (t1 k hk'), hm, hk.cell h.c2 (fun e => (hf _ e).2.2.1 rfl), hk.cell h.cl (fun e => (hf _ e).2.2.2.1 rfl),
    hk.cell h.c6 (fun e => (hf _ e).2.2.2.2.1 rfl), hk.cell h.c7 (fun e => (hf _ e).2.2.2.2.2 rfl), ⟨r, p1, p2, fun k hk' => p3 k (t1 k hk')⟩, h.kp.trans hk (fun i hi e => .inr (hx i e hi)), Nat.le_trans h.sz hk.size⟩

theorem Lo.still (h : Lo E w0 M s W) (hk : Kept (fun _ => False) W W') : Lo E w0 M s W' := by
  obtain ⟨r, p1, p2, p3⟩ := h.pile
  exact h.turn hk (fun _ e => e.elim) (fun _ _ e => e) (fun _ e => e.elim) (h.map.kept hk id) ⟨r, p1.kept hk (fun _ _ => id), p2, p3⟩

theorem Lo.asked (H : LoH E w0) (h : Lo E w0 M s W) (hx : EmX E.bm E.gm E.cm E.R E.C E.ms W W') : Lo E w0 M s W' := by
  obtain ⟨r, p1, p2, p3⟩ := h.pile
  have hl := H.lts
  have hsz := h.sz
  have hne : ∀ k, E.bm < k → k ≠ E.bm := fun k hk e => by omega
  refine ⟨h.obj.kept hx.kp (fun e => H.n1 e.symm) (fun e => H.n2 e.symm), hx.em, fun k hk => ?_, h.map.kept hx.kp (fun e => H.n3 e.symm), hx.kp.cell h.c2 (hne _ (by simp; omega)), hx.kp.cell h.cl (hne _ (by simp; omega)), hx.kp.cell h.c6 (hne _ (by simp; omega)), hx.kp.cell h.c7 (hne _ (by simp; omega)),
    ⟨r, p1.kept hx.kp (fun k hk e => p3 k (.inr (.inl e)) hk), p2, fun k hk ho => ?_⟩, h.kp.trans hx.kp (fun i _ e => .inl e), Nat.le_trans hsz hx.kp.size⟩
  · rcases hx.ts k hk with h1 | h1
    · exact h.ts k h1
    · exact .inr (by omega)
  · rcases hx.ts k hk with h1 | h1
    · exact p3 k h1 ho
    · have := p1.lt k ho; omega

theorem Lo.others (H : LoH E w0) (h : Lo E w0 M s W) {row : Option Nat} (hg : W.grownBy W' row) (hr : ∀ r, row = some r → w0.heap.size ≤ r ∧ ∃ o, W.heap[r]? = some o ∧ o.isCells = false) : Lo E w0 M s W' := by
  obtain ⟨r, p1, p2, p3⟩ := h.pile
  have hl := H.lts
  have hk : Kept (fun k => some k = row) W W' := (Kept.refl _ W).grown hg (fun k e => .inl e.symm)
  have hN0 : 0 < E.ms.length := by have := H.fr; have h1 : E.N = E.ms.length := rfl; omega
  have hcell : ∀ (p : Addr) (v : Value), W.cell? p = some v → some p.block ≠ row := fun p v hv e => by
    obtain ⟨_, o, ho, hc⟩ := hr _ e.symm
    rw [cells_of_cell hv ho] at hc; cases hc
  refine h.turn hk (fun k e => ⟨?_, ?_, ?_, ?_, ?_, ?_⟩) (fun k ht e => ?_) (fun k e hlt => ?_) (h.map.kept hk (fun e => ?_)) ⟨r, p1.kept hk (fun k ho e => ?_), p2, p3⟩
  · rintro rfl; exact hcell _ _ h.obj.c0 e
  · rintro rfl
    obtain ⟨_, o, ho, hc⟩ := hr _ e.symm
    rw [h.obj.bans] at ho; cases ho; cases hc
  · rintro rfl; exact hcell _ _ h.c2 e
  · rintro rfl; exact hcell _ _ h.cl e
  · rintro rfl; exact hcell _ _ h.c6 e
  · rintro rfl; exact hcell _ _ h.c7 e
  · obtain ⟨_, o, ho, hc⟩ := hr _ e.symm
    rw [h.em.tcells hN0 k ht o ho] at hc; cases hc
  · have := (hr _ e.symm).1; omega
  · have := (hr _ e.symm).1; omega
  · obtain ⟨_, o, ho2, hc⟩ := hr _ e.symm
    rw [p1.cells ho ho2] at hc; cases hc

/-- A call that turns the pile alone. -/
structure LoP (E : Env) (w0 : World) (M : List (Nat × Nat)) (s' : List Pq.It) (W W' : World) : Prop where
  lo : Lo E w0 M s' W'
  kp : KeepP (w0.heap.size + 1) W W'
  non : ∀ (k : Nat) (o : Obj), W.heap[k]? = some o → o.isCells = false → W'.heap[k]? = some o

theorem Lo.piled (H : LoH E w0) (h : Lo E w0 M s W) {r r' : Option Nat} (p1 : PileS W (w0.heap.size + 1) 0 r s) (p2 : ∀ k, some k = r → w0.heap.size + 5 ≤ k) (p3 : ∀ k, TS E.bm E.gm W k → ¬ Of (w0.heap.size + 1) r k)
    (q1 : PileS W' (w0.heap.size + 1) 0 r' s') (hk : Kp (w0.heap.size + 1) 0 r W W') (hn : Newer W r r') : LoP E w0 M s' W W' := by
  have hl := H.lts
  have hsz := h.sz
  have hN0 : 0 < E.ms.length := by have := H.fr; have h1 : E.N = E.ms.length := rfl; omega
  have hOf : ∀ k, Of (w0.heap.size + 1) r k → k = w0.heap.size + 1 ∨ w0.heap.size + 5 ≤ k := fun k hk => hk.imp id (p2 k)
  have hOf' : ∀ k, Of (w0.heap.size + 1) r' k → Of (w0.heap.size + 1) r k ∨ W.heap.size ≤ k := fun k hk => by
    rcases hk with e | e
    · exact .inl (.inl e)
    · exact (hn k e).imp (fun h => .inr h) id
  refine ⟨h.turn hk.kept (fun k e => by have := hOf k e; omega) (fun k ht e => p3 k ht e) (fun k e hlt => by have := hOf k e; omega) (h.map.kept hk.kept (fun e => by have := hOf _ e; omega)) ⟨r', q1, fun k e => ?_, fun k ht ho => ?_⟩, ⟨hk.kept.size, fun k o ho _ hp => ?_, fun k hp => ?_⟩, fun k o ho hc => ?_⟩
  · rcases hn k e with h1 | h1
    · exact p2 k h1
    · omega
  · rcases hOf' k ho with h1 | h1
    · exact p3 k ht h1
    · have := h.em.tlt hN0 k ht; omega
  · exact (hk.kept.block k (blk_lt ho) (fun e => hp ((p1.pb k).2 e))).trans ho
  · exact (hOf' k ((q1.pb k).1 hp)).imp (fun h => (p1.pb k).2 h) id
  · exact p1.others hk.kept k o ho (by rintro c t f rfl; cases hc)

theorem lo_push (H : LoH E w0) (h : Lo E w0 M s W) {c d : Nat} (hc : c < E.N) (hd : d ≤ 5000) (hs : s.length ≤ 10000) :
    Calls Tryd.prog 45 #[.int .i64 (c : Int), .int .i64 (d : Int), .pointer (some ⟨w0.heap.size + 1, 0, none⟩), .pointer (some ⟨w0.heap.size + 3, 0, none⟩)] W fun e W' => e = .returned (.tuple #[]) ∧ LoP E w0 M (Pq.ins (item (lftF E) d c) s) W W' := by
  obtain ⟨r, p1, p2, p3⟩ := h.pile
  refine (pusher_any ⟨h.obj, h.em, h.c6, h.cl, p1⟩ H.fr H.N hc hd hs (fun ho => ?_)).mono ?_
  · rcases ho with e | e
    · omega
    · have := p2 _ e; omega
  · rintro e W' ⟨rfl, r', q1, q2, q3⟩
    exact ⟨rfl, h.piled H p1 p2 p3 q1 q2 q3⟩

theorem lo_pop (H : LoH E w0) {x : Pq.It} (h : Lo E w0 M (x :: s) W) (hs : s.length ≤ 9999) :
    Calls Tryd.prog 48 #[.pointer (some ⟨w0.heap.size + 1, 0, none⟩)] W fun e W' => e = .returned (.tuple #[.agg #[.int .i64 x.c, .int .i64 x.t, .int .i64 x.i], .bool true]) ∧ LoP E w0 M s W W' := by
  obtain ⟨r, p1, p2, p3⟩ := h.pile
  refine (pop_s p1 hs).mono ?_
  rintro e W' ⟨rfl, q1, q2⟩
  exact ⟨rfl, h.piled H p1 p2 p3 q1 q2 (fun k e => .inl e)⟩

theorem lo_none (h : Lo E w0 M [] W) :
    Calls Tryd.prog 48 #[.pointer (some ⟨w0.heap.size + 1, 0, none⟩)] W fun e W' => e = .returned (.tuple #[.agg #[.int .i64 0, .int .i64 0, .int .i64 0], .bool false]) ∧ Lo E w0 M [] W' ∧ Kept (fun _ => False) W W' := by
  obtain ⟨r, p1, p2, p3⟩ := h.pile
  refine (pop_nil p1).mono ?_
  rintro e W' ⟨rfl, hb⟩
  have hk : Kept (fun _ => False) W W' := Kept.of_below hb (Nat.le_refl _)
  exact ⟨rfl, h.still hk, hk⟩

theorem lo_met (h : Lo E w0 M s W) {c : Nat} (hc : c ≤ 100000) :
    Calls Tryd.prog 49 #[.pointer (some ⟨E.bs, 0, none⟩), .int .i64 (c : Int)] W fun e w' => e = .returned (.bool (metB M c)) ∧ W = w' := met_any h.obj.c4 h.map hc

/-- One more is met. -/
theorem Lo.store (H : LoH E w0) (h : Lo E w0 M s W) {c d : Nat} {D : DataW Unit} (hD : MapD W E.m M D) (hc : ¬ met M c) (hg : W.grownBy W' (some E.m))
    (ho : W'.ownsMap Tryd.prog 3 (plainElem Tryd.prog 3) E.m (M.length + 1) (D.put (.int .i64 (c : Int)) (.lit (.int .i64 (d : Int))))) : Lo E w0 (M ++ [(c, d)]) s W' := by
  obtain ⟨r, p1, p2, p3⟩ := h.pile
  have hl := H.lts
  have hk : Kept (fun k => k = E.m) W W' := (Kept.refl _ W).grown hg (fun k e => .inl (by injection e with e; exact e.symm))
  refine h.turn hk (fun k e => ?_) (fun k ht e => ?_) (fun k e _ => e) (MapM.put hD hc ho) ⟨r, p1.kept hk (fun k ho e => ?_), p2, p3⟩
  · subst e
    exact ⟨H.n4, H.n5, by omega, by omega, by omega, by omega⟩
  · rcases h.ts k ht with h1 | h1
    · exact (H.tm k h1).1 e
    · omega
  · rcases ho with h1 | h1
    · omega
    · have := p2 k h1; omega
end
end Go.Proofs.YtkfijjjnidiejaaDoor

/-
  look: the range over the cells from which a route may step into one.
-/
namespace Go.Proofs.YtkfijjjnidiejaaDoor
set_option maxRecDepth 100000
set_option linter.unusedSimpArgs false
open Go Go.RowKit Rq
attribute [local go_sem] Oper.semAt_some

/-- The search, on E. -/
abbrev StaE (E : Env) (M : List (Nat × Nat)) (s : List Pq.It) (cur : Option Nat) (pre : List Nat) : Prop := Sta E.N (ins E.R E.C E.ms) (mayF E) E.to_ E.fr (lftF E) M s cur pre
/-- No item is too far. -/
def ItsB (E : Env) (s : List Pq.It) : Prop := ∀ x ∈ s, ∃ d c, x = item (lftF E) d c ∧ d ≤ E.N
theorem LoH.bkN {E : Env} {w0 : World} (_ : LoH E w0) : ∀ x b, b ∈ ins E.R E.C E.ms x → b < E.N := fun _ _ h => (ins_mem.1 h).1
theorem LoH.lft {E : Env} {w0 : World} (H : LoH E w0) : Lft (ins E.R E.C E.ms) (lftF E) E.fr := by
  refine ⟨fun x b hb => ?_, ?_⟩
  · obtain ⟨h1, h2, h3⟩ := ins_far H.em.hC H.em.hN hb
    have hN : E.N = E.ms.length := rfl
    have e1 := lft_int (E := E) H.fr (c := b) (by omega)
    have e2 := lft_int (E := E) H.fr (c := x) (by omega)
    have hf := H.fr
    unfold farZ at e1 e2
    rw [if_pos (by omega)] at e1 e2
    simp only [Int.toNat_natCast] at e1 e2
    unfold apartZ at h3 e1 e2
    generalize b / E.C = q1 at *
    generalize b % E.C = q2 at *
    generalize x / E.C = q3 at *
    generalize x % E.C = q4 at *
    generalize E.fr / E.C = q5 at *
    generalize E.fr % E.C = q6 at *
    omega
  · have hN : E.N = E.ms.length := rfl
    have e1 := lft_int (E := E) H.fr (c := E.fr) H.fr
    have hf := H.fr
    unfold farZ at e1
    rw [if_pos (by omega)] at e1
    unfold apartZ at e1
    omega
theorem LoH.dlt {E : Env} {w0 : World} (H : LoH E w0) {d c : Nat} (h : Ds (ins E.R E.C E.ms) (mayF E) E.to_ d c) : d < E.N := h.lt H.to_ H.bkN

theorem ItsB.ins {E : Env} {s : List Pq.It} (h : ItsB E s) {d c : Nat} (hd : d ≤ E.N) : ItsB E (Pq.ins (item (lftF E) d c) s) := by
  intro x hx
  rw [(Pq.ins_perm _ s).mem_iff, List.mem_cons] at hx
  rcases hx with rfl | hx
  · exact ⟨d, c, rfl, hd⟩
  · exact h x hx

/-- What stands between two rounds. -/
structure RnI (E : Env) (w0 w : World) (M : List (Nat × Nat)) (c d p10 n : Nat) (pre : List Nat) (W : World) (s : List Pq.It) : Prop where
  lo : Lo E w0 M s W
  sta : StaE E M s (some c) pre
  its : ItsB E s
  len : s.length ≤ n + pre.length
  cd : W.cell? ⟨p10, 0, none⟩ = some (.int .i64 (d : Int))
  np : ¬ PB (w0.heap.size + 1) W p10
  non : ∀ (k : Nat) (o : Obj), w.heap[k]? = some o → o.isCells = false → W.heap[k]? = some o
  sz : w.heap.size ≤ W.heap.size

def frI (f : Nat → Value) (z p10 bx bc : Nat) : Array Value := #[f 0, f 1, .pointer (some ⟨z, 0, none⟩), f 3, f 4, f 5, f 6, .pointer (some ⟨z + 4, 0, none⟩), f 8, f 9, .pointer (some ⟨p10, 0, none⟩), f 11, f 12, f 13, f 14, f 15, f 16, f 17, f 18, f 19, f 20, f 21, f 22, f 23, f 24, f 25, f 26, f 27, f 28, f 29, f 30, f 31, f 32, f 33, f 34, f 35, f 36, f 37, f 38, f 39, f 40, f 41, f 42, f 43, f 44, f 45, f 46, f 47, f 48, f 49, f 50, f 51, f 52, f 53, f 54, f 55, f 56, f 57, f 58, f 59, f 60, f 61, f 62, f 63, f 64, f 65, f 66, f 67, f 68, f 69, f 70, f 71, f 72, f 73, f 74, f 75, f 76, .func (.func 66) #[] #[.pointer (some ⟨bx, 0, none⟩), .pointer (some ⟨bc, 0, none⟩)], f 78, f 79, f 80, f 81, f 82, f 83, f 84, f 85, f 86]
def frB (f : Nat → Value) (z p10 bx bc x : Nat) : Array Value := #[f 0, f 1, .pointer (some ⟨z, 0, none⟩), f 3, f 4, f 5, f 6, .pointer (some ⟨z + 4, 0, none⟩), f 8, f 9, .pointer (some ⟨p10, 0, none⟩), .int .i64 (x : Int), f 12, f 13, f 14, f 15, f 16, f 17, f 18, f 19, f 20, f 21, f 22, f 23, f 24, f 25, f 26, f 27, f 28, f 29, f 30, f 31, f 32, f 33, f 34, f 35, f 36, f 37, f 38, f 39, f 40, f 41, f 42, f 43, f 44, f 45, f 46, f 47, f 48, f 49, f 50, f 51, f 52, f 53, f 54, f 55, f 56, f 57, f 58, f 59, f 60, f 61, f 62, f 63, f 64, f 65, f 66, f 67, f 68, f 69, f 70, f 71, f 72, f 73, f 74, f 75, f 76, .func (.func 66) #[] #[.pointer (some ⟨bx, 0, none⟩), .pointer (some ⟨bc, 0, none⟩)], .int .i64 (x : Int), f 79, f 80, f 81, f 82, f 83, f 84, f 85, f 86]

/-- What a walk leaves as it is. -/
structure StopL (p : Prop) : Prop where
  out : p

set_option maxHeartbeats 4000000 in
theorem inner_any {n : Nat} (hn : 3 ≤ n) {Q : Exit → Act → World → Prop} (code : Code) (hcode : rfNode ((Tryd.f29).body.getD .skip) = some code)
    {E : Env} {w0 w : World} (H : LoH E w0) {M : List (Nat × Nat)} {s : List Pq.It} {c d p10 bx bc n0 : Nat} (f : Nat → Value) (ds : List Deferred)
    (h0 : RnI E w0 w M c d p10 n0 [] w s) (hcd : (c, d) ∈ M) (hmax : ∀ x y, (x, y) ∈ M → y + lftF E x ≤ d + lftF E c) (hn0 : n0 ≤ 9000)
    (h1 : w.cell? ⟨bx, 0, none⟩ = some (.pointer (some ⟨E.bs, 0, none⟩))) (h2 : w.cell? ⟨bc, 0, none⟩ = some (.int .i64 (c : Int)))
    (l1 : w0.heap.size + 5 ≤ bx) (l2 : w0.heap.size + 5 ≤ bc) (l3 : w0.heap.size + 5 ≤ p10) (n3 : ¬ PB (w0.heap.size + 1) w bx)
    (hdone : ∀ (D : Nat) (W : World) (s' : List Pq.It), w.heap.size ≤ D → Lo E w0 M s' W → StaE E M s' none [] → ItsB E s' → s'.length ≤ n0 + 4 → (∀ (k : Nat) (o : Obj), w.heap[k]? = some o → o.isCells = false → W.heap[k]? = some o) → w.heap.size ≤ W.heap.size →
      W.heap[D]? = some (.deferred (some [])) → Q .normal { tmps := frI f w0.heap.size p10 bx bc, defers := { target := .collected D, args := #[] } :: ds } W) :
    code.wpIn Fence.wide n Tryd.prog Q { tmps := frI f w0.heap.size p10 bx bc, defers := ds } w := by
  simp only [Tryd.f29, Option.getD_some, rfNode, Nat.reduceEqDiff, if_false, if_true, Option.orElse_none, Option.orElse_some, Option.some.injEq, reduceCtorEq] at hcode
  subst hcode
  have hl := H.lts
  have hNn := H.N
  have hN0 : 0 < E.N := by have := H.fr; omega
  have hcN : c < E.N := (h0.sta.mt c d hcd).1
  have hlen := ins_len4 H.em.hC H.em.hN (ms := E.ms) (R := E.R) c
  obtain ⟨r0, p1, p2, p3⟩ := h0.lo.pile
  have hpb : ∀ k, PB (w0.heap.size + 1) w k → k = w0.heap.size + 1 ∨ w0.heap.size + 5 ≤ k := fun k hk => ((p1.pb k).1 hk).imp id (p2 k)
  have hsz := h0.lo.sz
  refine range_state (by omega) (gf := 66) (lb := #[.pointer (some ⟨bx, 0, none⟩), .pointer (some ⟨bc, 0, none⟩)]) rfl (enters_of Tryd.func66 (by kernel_rfl) rfl)
    (encs := fun x : {x : Nat // x ∈ ins E.R E.C E.ms c ∧ mayF E x = true} => #[.int .i64 ((x.1 : Nat) : Int)]) (fun _ => rfl)
    (before_tells (n - 1) (by omega) E bx bc (w0.heap.size + 1) c w h0.lo.obj h0.lo.em hN0 hNn hcN h1 h2 (fun k hk => p1.lt k ((p1.pb k).1 hk)) (by omega) (fun hp => by have := hpb _ hp; omega) (fun hp => by have := hpb _ hp; omega) n3 H.n1 H.n2 (by omega) (by omega) (by omega) (by omega))
    (Below.refl _ _)
    (fun A B ht => ⟨ht.ex.kp.size, fun k o _ ho hc => ht.non k o ho hc⟩) (fun h k => h.trans k)
    (fun W l o o' hl' ho hc => KeepP.putObj W o' ho hc (by omega))
    (fun pre W => ∃ s', RnI E w0 w M c d p10 n0 (pre.map (·.1)) W s') ?hI ?hIT ?hS ⟨s, h0⟩
    (fun x a' _ => a' = { tmps := frB f w0.heap.size p10 bx bc x.1, defers := [] })
    ?hAx ?assign ?body ?done
  case hI =>
    rintro pre A B row ⟨s', h⟩ hg hr
    have hcell : ∀ (p : Addr) (v : Value), A.cell? p = some v → some p.block ≠ row := fun p v hv e => by
      obtain ⟨_, o, ho, hc⟩ := hr _ e.symm
      rw [cells_of_cell hv ho] at hc; cases hc
    refine ⟨s', h.lo.others H hg (fun r e => ⟨by have := (hr r e).1; omega, (hr r e).2⟩), h.sta, h.its, h.len, hg.cell h.cd (fun e => hcell _ _ h.cd e), fun hp => h.np ((pb_still (hg.block _ ?_ ?_) _).1 hp), fun k o hk hc => ?_, Nat.le_trans h.sz hg.size⟩
    · have := h.lo.sz; omega
    · intro e; have := (hr _ e.symm).1; omega
    · exact (hg.block k (blk_lt (h.non k o hk hc)) (fun e => by have := (hr _ e.symm).1; have := blk_lt hk; omega)).trans (h.non k o hk hc)
  case hIT =>
    rintro pre A B ⟨s', h⟩ ht
    refine ⟨s', h.lo.asked H ht.ex, h.sta, h.its, h.len, ht.ex.kp.cell h.cd (fun e => by simp at e; omega), fun hp => h.np ((pb_still (ht.ex.kp.block _ ?_ ?_) _).1 hp), fun k o hk hc => ht.non k o (h.non k o hk hc) hc, Nat.le_trans h.sz ht.ex.kp.size⟩
    · have := h.lo.sz; omega
    · omega
  case hS =>
    intro xs A B row hs _ _
    exact hs
  case hAx =>
    intro x a' _ A B row h _ _
    exact h
  case assign =>
    intro l pre x W K hI hK
    unfold frI
    gi_wp2
    exact hK _ _ (KeepsFrom.refl _ _) (KeepP.refl _ _) hI rfl
  case body =>
    rintro l pre ⟨x, hxm, hxy⟩ a' W hl' ⟨s', h⟩ rfl hlt
    have hxN : x < E.N := (ins_mem.1 hxm).1
    have hdl := H.dlt (h.sta.mt c d hcd).2
    have f2 := h.lo.c2
    have f7 := h.lo.c7
    have fd := h.cd
    have HMt := Lib.hid (lo_met h.lo (c := x) (by omega))
    have hmp : (pre ++ [(⟨x, hxm, hxy⟩ : {x : Nat // x ∈ ins E.R E.C E.ms c ∧ mayF E x = true})]).map (·.1) = pre.map (·.1) ++ [x] := by simp
    have hpl : (pre.map (·.1)).length = pre.length := by simp
    have hpl2 := h.len
    cases hm : metB M x with
    | true =>
      have HR : Hid (∃ s', RnI E w0 w M c d p10 n0 ((pre ++ [(⟨x, hxm, hxy⟩ : {x : Nat // x ∈ ins E.R E.C E.ms c ∧ mayF E x = true})]).map (·.1)) W s') := by
        show ∃ s', _
        rw [hmp]
        exact ⟨s', h.lo, h.sta.pass (metB_true.1 hm), h.its, by simp; omega, h.cd, h.np, h.non, h.sz⟩
      rw [hm] at HMt
      clear h hdone h0 hmax
      unfold frB
      gi_wp2_with fail
      refine ⟨trivial, fun h => (by cases h), CallsIn.inRound l (callsIn_wide.2 (HMt.out.mono ?_))⟩
      rintro e w' ⟨rfl, rfl⟩
      gi_wp2
      exact ⟨KeepsFrom.refl _ _, KeepP.refl _ _, HR.out⟩
    | false =>
      have hmx := hmax c d hcd
      have hdN : d + 1 ≤ E.N := by omega
      have hw : IntKind.i64.wrap ((d : Int) + 1) = ((d + 1 : Nat) : Int) := by rw [IntWalk.i64_in _ (by omega)]; omega
      have HP : Hid (Calls Tryd.prog 45 #[.int .i64 (x : Int), .int .i64 ((d + 1 : Nat) : Int), .pointer (some ⟨w0.heap.size + 1, 0, none⟩), .pointer (some ⟨w0.heap.size + 3, 0, none⟩)] W fun e W' => e = .returned (.tuple #[]) ∧ LoP E w0 M (Pq.ins (item (lftF E) (d + 1) x) s') W W') := lo_push H h.lo hxN (by omega) (by omega)
      have HR : Hid (∀ W', LoP E w0 M (Pq.ins (item (lftF E) (d + 1) x) s') W W' → roundEnd w.heap.size (KeepP (w0.heap.size + 1)) (fun (pre : List {x : Nat // x ∈ ins E.R E.C E.ms c ∧ mayF E x = true}) W => ∃ s', RnI E w0 w M c d p10 n0 (pre.map (·.1)) W s') (pre ++ [(⟨x, hxm, hxy⟩ : {x : Nat // x ∈ ins E.R E.C E.ms c ∧ mayF E x = true})]) W .normal { tmps := #[], defers := [] } W') := by
        intro W' hp
        refine ⟨⟨hp.kp.size, fun k o _ hk hc => hp.non k o hk hc⟩, hp.kp, ?_⟩
        show ∃ s', _
        rw [hmp]
        refine ⟨_, hp.lo, h.sta.push H.lft hcd hxm hxN hxy hmax, h.its.ins hdN, ?_, hp.kp.cell h.cd h.np, hp.kp.still (World.block_lt_of_cell? W ⟨p10, 0, none⟩ h.cd) h.np, fun k o hk hc => hp.non k o (h.non k o hk hc) hc, Nat.le_trans h.sz hp.kp.size⟩
        rw [(Pq.ins_perm _ s').length_eq]
        simp
        omega
      rw [hm] at HMt
      clear h hdone h0 hmax
      unfold frB
      gi_wp2_with fail
      refine ⟨trivial, fun h => (by cases h), CallsIn.inRound l (callsIn_wide.2 (HMt.out.mono ?_))⟩
      rintro e w' ⟨rfl, rfl⟩
      gi_wp2_with fail
      refine ⟨trivial, fun h => (by cases h), CallsIn.inRound l (callsIn_wide.2 (HP.out.mono ?_))⟩
      rintro e w' ⟨rfl, hp⟩
      have HR2 := Lib.hid (HR.out w' hp)
      clear hp HR
      gi_wp2
      exact HR2.out
  case done =>
    rintro D xs W hD hxs ⟨s', h⟩ hK
    refine hdone D W s' hD h.lo (h.sta.fin (fun b hb hm => ?_)) h.its ?_ h.non h.sz hK
    · rw [hxs]
      unfold befL
      exact List.mem_filter.2 ⟨hb, hm⟩
    · have h3 := h.len
      have h4 : (xs.map (·.1)).length ≤ 4 := by
        rw [hxs]
        exact Nat.le_trans (List.length_filter_le _ _) hlen
      omega
end Go.Proofs.YtkfijjjnidiejaaDoor
