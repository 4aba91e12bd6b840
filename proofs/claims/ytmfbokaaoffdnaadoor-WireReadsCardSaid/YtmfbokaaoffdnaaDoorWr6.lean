/-
  Bytes: its closure, which appends a number's bytes, each with its complement.
-/
import Derived.Test.YtmfbokaaoffdnaaDoorWr2
import Derived.Maps.AppendAt
import Derived.Maps.OwnIn
import Derived.RangeFuncBox
namespace Go.Proofs.YtmfbokaaoffdnaaDoor
set_option maxRecDepth 100000
set_option linter.unusedSimpArgs false
open Go Go.RowKit Wr

def byV (c : Nat) : Value := .int .u8 (c : Nat)
theorem Tryd.infoU8 : (Tryd.prog.info? 5).map (fun i => (i.zero, i.size, i.bytes)) = some (some (.int .u8 0), 1, 1) := by kernel_rfl

/-- A list of bytes in the variable at q. -/
structure Buf (q B : Nat) (v : Value) (l : List Nat) (W : World) : Prop where
  var : W.heap[q]? = some (.cells #[v] 34 (0, 0))
  own : W.ownsRow B 5 1 v l.length (l.map byV)
theorem row_block {w : World} {base : Nat} {e : TypeId} {size : Nat} {v : Value} {n : Nat} {xs : List Value} (h : w.ownsRow base e size v n xs) {g : Nat} (hg : v.ownBlock = some g) : ∃ c, w.heap[g]? = some (.cells c e (0, 0)) := by
  rcases h.2 with ⟨rfl, _⟩ | ⟨g', cap, cur, rfl, _, hgg, _⟩
  · cases hg
  · have : g' = g := by simpa [Value.ownBlock] using hg
    subst this
    exact ⟨_, hgg⟩
theorem row_apart {w : World} {base : Nat} {e : TypeId} {size : Nat} {v : Value} {n : Nat} {xs : List Value} (h : w.ownsRow base e size v n xs) {g : Nat} {c : Array Value} {t : TypeId} {f : Nat × Nat} (hg : w.heap[g]? = some (.cells c t f)) (ht : t ≠ e) : v.ownBlock ≠ some g := by
  intro hv
  obtain ⟨c', h'⟩ := row_block h hv
  rw [hg] at h'
  injection h' with h'
  injection h' with _ h2 _
  exact ht h2

theorem xor_u8 (c : Nat) (h : c < 256) : bits .xor .u8 IntKind.u8.max (c : Int) = ((255 - c : Nat) : Int) := by
  have : ∀ c : Fin 256, bits .xor .u8 IntKind.u8.max ((c.val : Nat) : Int) = ((255 - c.val : Nat) : Int) := by decide +kernel
  exact this ⟨c, h⟩

def PutPost (q B : Nat) (v : Value) (l : List Nat) (W : World) (e : Ending) (W' : World) : Prop :=
  e = .returned (.tuple #[]) ∧ ∃ v', Buf q B v' l W' ∧ Kept (fun k => k = q ∨ v.ownBlock = some k) W W' ∧ (v'.ownBlock = v.ownBlock ∨ ∀ k, v'.ownBlock = some k → W.heap.size ≤ k)

/-- Two bytes more. -/
theorem put_step {q B : Nat} {v v1 v' : Value} {l : List Nat} {W w1 w2 : World} {o : Obj} {c d : Nat} (h : Buf q B v1 l w1) (hk : Kept (fun k => k = q ∨ v.ownBlock = some k) W w1) (hv : v1.ownBlock = v.ownBlock ∨ ∀ k, v1.ownBlock = some k → W.heap.size ≤ k)
    (ho : w2.ownsRow B 5 1 v' (l.length + 2) (l.map byV ++ [byV c, byV d])) (hg : (w1.alloc o).grownBy w2 v1.ownBlock) (hl : v'.ownBlock = v1.ownBlock ∨ v'.ownBlock = some (w1.alloc o).heap.size) :
    w2.cell? ⟨q, 0, none⟩ = some v1 ∧ w2.frozen? ⟨q, 0, none⟩ = false ∧ Buf q B v' (l ++ [c, d]) (w2.setCell ⟨q, 0, none⟩ v') ∧ Kept (fun k => k = q ∨ v.ownBlock = some k) W (w2.setCell ⟨q, 0, none⟩ v') ∧ (v'.ownBlock = v.ownBlock ∨ ∀ k, v'.ownBlock = some k → W.heap.size ≤ k) := by
  have hqw : q < w1.heap.size := blk_lt h.var
  have hne : v1.ownBlock ≠ some q := row_apart h.own h.var (by decide)
  have K1 : Kept (fun k => v1.ownBlock = some k) w1 w2 := ((Kept.refl _ w1).alloc o).grown hg (fun k e => .inl e)
  have b2 : w2.heap[q]? = some (.cells #[v1] 34 (0, 0)) := (K1.block q hqw hne).trans h.var
  have K2 : Kept (fun k => k = q ∨ v.ownBlock = some k) W w2 := hk.trans K1 (fun k hk e => by
    rcases hv with h1 | h1
    · exact .inr (h1 ▸ e)
    · have := h1 k e; omega)
  have hne' : v'.ownBlock ≠ some q := row_apart ho b2 (by decide)
  refine ⟨by rw [blk_cell b2]; rfl, blk_free b2 0, ⟨by rw [blk_set b2]; rfl, ?_⟩, K2.setCell (p := ⟨q, 0, none⟩) (.inl (.inl rfl)) _, ?_⟩
  · have := Kept.row ((Kept.refl (fun k => k = q) w2).setCell (p := ⟨q, 0, none⟩) (.inl rfl) v') ho (fun k e hk => hne' (hk ▸ e))
    simpa using this
  · rcases hl with h1 | h1
    · rcases hv with h2 | h2
      · exact .inl (h1.trans h2)
      · exact .inr (fun k e => h2 k (h1 ▸ e))
    · refine .inr (fun k e => ?_)
      rw [h1] at e
      have : (w1.alloc o).heap.size = k := by simpa using e
      have hs := hk.size
      simp at this
      omega

set_option maxHeartbeats 2000000 in
theorem put_any {q B : Nat} {v : Value} {l : List Nat} {W : World} (h : Buf q B v l W) (hB : B ≤ W.heap.size) (hl : l.length ≤ 1000000) (wd : Nat) (hw : wd ≤ 8) (n : Int) :
    Calls Tryd.prog 25 #[.int .i64 (wd : Nat), .int .i64 n, .pointer (some ⟨q, 0, none⟩)] W (PutPost q B v (l ++ dbl (be wd n)) W) := by
  obtain ⟨i0, hi, hz0, hz1, hz2⟩ := info_parts Tryd.infoU8
  have hqW : q < W.heap.size := blk_lt h.var
  obtain ⟨P, hP⟩ : ∃ P : Ending → World → Prop, P = PutPost q B v (l ++ dbl (be wd n)) W := ⟨_, rfl⟩
  have HQ : Hid (∀ W' v', Buf q B v' (l ++ dbl (be wd n)) W' → Kept (fun k => k = q ∨ v.ownBlock = some k) W W' → (v'.ownBlock = v.ownBlock ∨ ∀ k, v'.ownBlock = some k → W.heap.size ≤ k) → P (.returned (.tuple #[])) W') := by rw [hP]; exact fun W' v' h1 h2 h3 => ⟨rfl, v', h1, h2, h3⟩
  rw [← hP]
  clear hP
  have H := Lib.hid h
  clear h
  have HR0 : Hid (∃ (i : Nat) (v1 : Value), i ≤ wd ∧ Value.int .i64 0 = .int .i64 (i : Int) ∧ Buf q B v1 (l ++ dbl ((be wd n).take i)) W ∧ Kept (fun k => k = q ∨ v.ownBlock = some k) W W ∧ (v1.ownBlock = v.ownBlock ∨ ∀ k, v1.ownBlock = some k → W.heap.size ≤ k)) :=
    ⟨0, v, Nat.zero_le _, rfl, by rw [List.take_zero, dbl_nil, List.append_nil]; exact H.out, Kept.refl _ _, .inl rfl⟩
  go_enter Tryd.func25, Tryd.ntmps25
  go_wp2
  go_loopw [8] (fun i wr => ∃ (k : Nat) (v1 : Value), k ≤ wd ∧ i = .int .i64 (k : Int) ∧ Buf q B v1 (l ++ dbl ((be wd n).take k)) wr ∧ Kept (fun k => k = q ∨ v.ownBlock = some k) W wr ∧ (v1.ownBlock = v.ownBlock ∨ ∀ k, v1.ownBlock = some k → W.heap.size ≤ k)) (fun i _ => wd - (intOf i).toNat)
  case atStart => exact HR0.out
  case round =>
    obtain ⟨k, v1, hk, rfl, h1, h2, h3⟩ := hrel
    clear HR0
    have H1 := Lib.hid h1
    have H2 := Lib.hid h2
    have H3 := Lib.hid h3
    clear h1 h2 h3
    by_cases hlt : k < wd
    · have c1 : wr.cell? ⟨q, 0, none⟩ = some v1 := by rw [blk_cell H1.out.var]; rfl
      obtain ⟨N, hN⟩ : ∃ N, N = (l ++ dbl ((be wd n).take k)).length := ⟨_, rfl⟩
      have hNb : N ≤ 1000100 := by rw [hN, List.length_append, dbl_length, List.length_take, be_length]; omega
      have hWs : B ≤ wr.heap.size := by have := H2.out.size; omega
      obtain ⟨c, hc⟩ : ∃ c : Nat, c = ((n / 2 ^ (8 * (wd - 1 - k))) % 256).toNat := ⟨_, rfl⟩
      have hci : n / 2 ^ (8 * (wd - 1 - k)) % 256 = (c : Int) := by omega
      have hc256 : c < 256 := by omega
      have hx := xor_u8 c hc256
      have HL : Hid (l ++ dbl ((be wd n).take (k + 1)) = l ++ dbl ((be wd n).take k) ++ [c, 255 - c]) := by rw [Hid, be_take hlt, dbl_append, hc, List.append_assoc]; rfl
      have HV : Hid (wr.ownsRow B 5 1 v1 N ((l ++ dbl ((be wd n).take k)).map byV)) := by show World.ownsRow _ _ _ _ _ _ _; rw [hN]; exact H1.out.own
      have HN : Hid (∀ w2 v' o, w2.ownsRow B 5 1 v' (N + 2) ((l ++ dbl ((be wd n).take k)).map byV ++ [byV c, byV (255 - c)]) → (wr.alloc o).grownBy w2 v1.ownBlock → (v'.ownBlock = v1.ownBlock ∨ v'.ownBlock = some (wr.alloc o).heap.size) →
          w2.cell? ⟨q, 0, none⟩ = some v1 ∧ w2.frozen? ⟨q, 0, none⟩ = false ∧ Hid (Buf q B v' (l ++ dbl ((be wd n).take (k + 1))) (w2.setCell ⟨q, 0, none⟩ v') ∧ Kept (fun k => k = q ∨ v.ownBlock = some k) W (w2.setCell ⟨q, 0, none⟩ v') ∧ (v'.ownBlock = v.ownBlock ∨ ∀ k, v'.ownBlock = some k → W.heap.size ≤ k))) := by
        intro w2 v' o h1 h2 h3
        rw [hN] at h1
        rw [HL.out]
        exact put_step H1.out H2.out H3.out h1 h2 h3
      generalize (l ++ dbl ((be wd n).take k)).map byV = M at *
      clear hN hc
      go_wp2_with (at_builtin; refine wpList_append_own_at _ rfl _ _ 34 rfl B 5 i0 (.int .u8 0) 1 1 Tryd.underlying34 hi hz0 hz1 hz2 rfl (by decide) _ N _ rfl (HV.out.alloc _) ⟨wr.heap.size, 0, none⟩ 2 2 [byV c, byV (255 - c)] rfl rfl ?b1 ?b2 ?b3 ?b4 ?b5 ?b6)
      case b1.inr => exact fun _ _ h => h
      case b2 => intro u hu; simp [byV] at hu; rcases hu with rfl | rfl <;> rfl
      case b3 => unfold maxLen; omega
      case b4 => omega
      case b5 => omega
      intro v' w2 hown' hgrow _ hat
      obtain ⟨g', cap', rfl⟩ := ownsRow_succ hown'
      obtain ⟨hq1, hq2, hq3⟩ := HN.out _ _ _ hown' hgrow (by simpa using hat)
      clear hown' hgrow hat
      go_wp2
      go_roundw
      case rel => exact ⟨k + 1, _, by omega, by go_num, hq3⟩
      case measure => simp [intOf]; omega
    · obtain rfl : k = wd := by omega
      have HF : Hid (P (.returned (.tuple #[])) wr) := HQ.out wr v1 (by rw [List.take_of_length_le (by rw [be_length]; omega)] at H1; exact H1.out) H2.out H3.out
      go_wp2
      first | exact HF.out | exact bodyPost_end (results_none rfl _ _ _) rfl HF.out
end Go.Proofs.YtmfbokaaoffdnaaDoor
