/-
  The walk of grid.Map's Text.
-/
import Derived.Test.YtlkojoinbogkmaaDoorW2
import Derived.Test.YtlkojoinbogkmaaDoorBld
import Derived.StillTailTactics
import Derived.Deep.RegionWith
namespace Go.Proofs.YtlkojoinbogkmaaDoor
set_option maxRecDepth 100000
open Go.RowKit

theorem row_cell {L : List (List UInt8)} (hg : Pure.Good L) {k j : Nat} (hk : k < L.length) (hj : j < Pure.wid L) : L.flatten[k * Pure.wid L + j]? = some (L[k][j]'(by rw [hg.row L[k] (List.getElem_mem _)]; exact hj)) := by
  rw [Pure.flat_at (n := Pure.wid L) (by omega) L hg.row]
  have e1 : (k * Pure.wid L + j) / Pure.wid L = k := by
    rw [Nat.mul_comm, Nat.mul_add_div (by omega), Nat.div_eq_of_lt hj, Nat.add_zero]
  have e2 : (k * Pure.wid L + j) % Pure.wid L = j := by
    rw [Nat.mul_comm, Nat.mul_add_mod, Nat.mod_eq_of_lt hj]
  rw [e1, e2, List.getElem?_eq_getElem hk]
  simp only [Option.bind_some]
  rw [List.getElem?_eq_getElem]

theorem text_take {L : List (List UInt8)} {k : Nat} (hk : k < L.length) : Pure.text (L.take (k + 1)) = Pure.text (L.take k) ++ L[k] ++ [10] := by
  rw [List.take_succ_eq_append_getElem hk, Pure.text_snoc]

theorem text_len {L : List (List UInt8)} (hg : Pure.Good L) (k : Nat) : (Pure.text (L.take k)).length ≤ 2000 := by
  have h : ∀ (M : List (List UInt8)), (∀ x ∈ M, x.length ≤ 32) → (Pure.text M).length ≤ M.length * 33 := by
    intro M
    induction M with
    | nil => intro _; simp [Pure.text]
    | cons a M ih =>
      intro hM
      have h1 := hM a (by simp)
      have h2 := ih (fun x hx => hM x (by simp [hx]))
      have e : Pure.text (a :: M) = a ++ [10] ++ Pure.text M := by simp [Pure.text]
      rw [e]; simp; omega
  have := h (L.take k) (fun x hx => by rw [hg.row x (List.mem_of_mem_take hx)]; exact hg.hi)
  have h3 : (L.take k).length ≤ 32 := Nat.le_trans (List.length_take_le' _ _) hg.len
  have h4 : (L.take k).length * 33 ≤ 32 * 33 := Nat.mul_le_mul_right _ h3
  omega

def TextRel (w : World) (L : List (List UInt8)) (i : Value) (wr : World) : Prop :=
  ∃ k : Nat, k ≤ L.length ∧ i = .int .i64 (k : Int) ∧ Lib.IsBuilder 68 5 w.heap.size w.heap.size (Lib.byteCells (Pure.text (L.take k))) wr ∧ Below w.heap.size w wr

set_option maxHeartbeats 1000000 in
theorem text_any {b g cap : Nat} {L : List (List UInt8)} {w : World} (h : MapAt w b g cap L) (hg : Pure.Good L) :
    Calls Tryd.prog 21 #[.pointer (some ⟨b, 0, none⟩)] w fun e w' => e = .returned (.string ⟨(Pure.text L).toArray⟩) ∧ Below w.heap.size w w' := by
  have hb := blk_lt h.blk
  have hgl := (h.own.lt g rfl).2
  have hsz := hg.size
  have hlen := hg.len
  have hlo := hg.lo
  have hhi := hg.hi
  have HM : Hid (MapAt w b g cap L) := h
  have HG : Hid (Pure.Good L) := hg
  have c0 : w.cell? ⟨b, 0, none⟩ = some (.int .i64 (L.length : Int)) := by rw [blk_cell h.blk]; rfl
  have c1 : w.cell? ⟨b, 1, none⟩ = some (.int .i64 (Pure.wid L : Int)) := by rw [blk_cell h.blk]; rfl
  have c2 : w.cell? ⟨b, 2, none⟩ = some (.slice (some ⟨g, 0, none⟩) L.flatten.length cap) := by rw [blk_cell h.blk]; rfl
  have HSZ : Hid (L.flatten.length = L.length * Pure.wid L) := hsz
  have HC0 : Hid ((w.alloc (.cells #[.pointer none, .slice none 0 0] 68)).cell? ⟨b, 0, none⟩ = some (.int .i64 (L.length : Int))) := (World.cell?_alloc_past _ _ _ hb).trans c0
  have hcap : L.flatten.length ≤ cap := by
    rcases h.own.2 with ⟨h0, _⟩ | ⟨g', cap', cur, h0, _, _, h1, _⟩
    · cases h0
    · cases h0; exact h1
  have hsm := hg.small
  clear h hg hsz
  obtain ⟨N, hN⟩ : ∃ N, N = L.flatten.length := ⟨_, rfl⟩
  rw [← hN] at c2 HSZ hcap hsm
  have HN : Hid (N = L.flatten.length) := hN
  clear hN
  go_enter Tryd.func21, Tryd.ntmps21
  go_wp2_with (go_at_call 25; (with_reducible refine (rows_any b (L.length : Int) _ HC0.out).mono ?_); rintro e w' ⟨rfl, rfl⟩)
  go_loopw [7] (fun i wr => TextRel w L i wr) (fun i _ => L.length - (intOf i).toNat)
  case atStart => exact ⟨0, Nat.zero_le _, rfl, .inl ⟨Nat.le_refl _, .slice none 0 0, heap_alloc_new w _, World.ownsRow_nil _ _ _ _, by simp [Value.ownBlock]⟩, (Below.refl _ _).alloc (Nat.le_refl _) _⟩
  case round =>
    obtain ⟨k, hk, rfl, hbld, hbel⟩ := hrel
    by_cases hlt : k < L.length
    · have d0 : wr.cell? ⟨b, 0, none⟩ = some (.int .i64 (L.length : Int)) := (hbel.cell (p := ⟨b, 0, none⟩) hb).trans c0
      have d1 : wr.cell? ⟨b, 1, none⟩ = some (.int .i64 (Pure.wid L : Int)) := (hbel.cell (p := ⟨b, 1, none⟩) hb).trans c1
      have d2 : wr.cell? ⟨b, 2, none⟩ = some (.slice (some ⟨g, 0, none⟩) N cap) := (hbel.cell (p := ⟨b, 2, none⟩) hb).trans c2
      have hmul : k * Pure.wid L + Pure.wid L ≤ N := by
        rw [HSZ.out, ← Nat.succ_mul]; exact Nat.mul_le_mul_right _ hlt
      have e1 : IntKind.i64.wrap ((k : Int) * (Pure.wid L : Int)) = ((k * Pure.wid L : Nat) : Int) := by
        rw [← Int.natCast_mul]; exact IntWalk.i64_in _ (by omega)
      have e2 : IntKind.i64.wrap (((k : Int) + 1) * (Pure.wid L : Int)) = ((k * Pure.wid L + Pure.wid L : Nat) : Int) := by
        have : ((k : Int) + 1) * (Pure.wid L : Int) = ((k * Pure.wid L + Pure.wid L : Nat) : Int) := by
          rw [Int.add_mul, Int.one_mul, ← Int.natCast_mul]; rfl
        rw [this]; exact IntWalk.i64_in _ (by omega)
      have e3 : IntKind.i64.wrap ((k : Int) + 1) = (k : Int) + 1 := IntWalk.i64_in _ (by omega)
      have HRC : Hid (∀ p, p = k * Pure.wid L → ∀ j u, (Lib.byteCells L[k])[j]? = some u → wr.drew.cell? ((⟨g, p, none⟩ : Addr).add j) = some u) := by
        intro p hp j u hu
        have hj : j < L[k].length := by
          have := (List.getElem?_eq_some_iff.1 hu).1
          simpa [Lib.byteCells] using this
        have hjw : j < Pure.wid L := by rw [← HG.out.row L[k] (List.getElem_mem _)]; exact hj
        have hc := byte_cells HM.out.own (p + j) (by
          rw [HG.out.size, hp]
          have : (k + 1) * Pure.wid L ≤ L.length * Pure.wid L := Nat.mul_le_mul_right _ hlt
          rw [Nat.succ_mul] at this; omega)
        have hr := row_cell HG.out hlt hjw
        rw [List.getD, hp, hr] at hc
        have e : (⟨g, p, none⟩ : Addr).add j = ⟨g, p + j, none⟩ := by unfold Addr.add; split <;> simp_all
        rw [e, hp]
        have hu' : u = byteV L[k][j] := by
          have : (Lib.byteCells L[k])[j]? = some (byteV L[k][j]) := by simp [Lib.byteCells, hj, byteV]
          rw [this] at hu; exact (Option.some.inj hu).symm
        rw [hu']
        exact (hbel.cell (p := ⟨g, k * Pure.wid L + j, none⟩) hgl).trans hc
      have HRL : Hid ((Lib.byteCells L[k]).length = Pure.wid L) := by
        show (Lib.byteCells L[k]).length = Pure.wid L
        rw [Lib.byteCells, List.length_map]; exact HG.out.row L[k] (List.getElem_mem _)
      have HTX : Hid (Lib.byteCells (Pure.text (L.take k)) ++ Lib.byteCells L[k] ++ [.int .u8 10] = Lib.byteCells (Pure.text (L.take (k + 1)))) := by
        show _ = _
        rw [text_take hlt]; simp [Lib.byteCells]
      have HTL : Hid ((Lib.byteCells (Pure.text (L.take k))).length ≤ 2000) := by
        show _ ≤ _
        rw [Lib.byteCells, List.length_map]
        exact text_len HG.out k
      have HBD : Hid (Lib.IsBuilder 68 5 w.heap.size w.heap.size (Lib.byteCells (Pure.text (L.take k))) wr) := hbld
      have HP : Hid (k * Pure.wid L = k * Pure.wid L) := rfl
      have HPE := fun p (h : k * Pure.wid L = p) => HRC.out p h.symm
      clear hbld
      generalize hpe : k * Pure.wid L = p at hmul e1 e2
      have HNW : Hid (∀ j u, (Lib.byteCells L[k])[j]? = some u → wr.drew.cell? ((⟨g, p, none⟩ : Addr).add j) = some u) := HPE p hpe
      clear HPE hpe HP HRC
      obtain ⟨q, hq⟩ : ∃ q, q = p + Pure.wid L := ⟨_, rfl⟩
      rw [← hq] at hmul e2
      have HQ : Hid (q = p + Pure.wid L) := hq
      have hi1 : (p : Int) ≤ (q : Int) := by omega
      have hi2 : (q : Int) ≤ (cap : Int) := by omega
      have hcp : ¬ cap = p := by omega
      have hqp : Hid (q - p = Pure.wid L) := (by omega : q - p = Pure.wid L)
      clear hq
      generalize hW : Pure.wid L = W at *
      go_wp2_with fail
      go_still_tail 18, (by kernel_rfl)
      change wpList _ _ _ _ _ wr.drew
      go_wp2_with (go_at_call 39; (with_reducible refine (write_any w.heap.size w.heap.size (Lib.byteCells (Pure.text (L.take k))) ⟨g, p, none⟩ (q - p) (cap - p) (Lib.byteCells L[k]) wr.drew ?b1 ?b2 HNW.out ?b4 ?b5 ?b6 ?b7).mono ?_))
      case b1 => exact HBD.out
      case b2 => exact HRL.out.trans hqp.out.symm
      case b5 => intro u hu; simp only [Lib.byteCells, List.mem_map] at hu; obtain ⟨_, _, rfl⟩ := hu; rfl
      case b6 => have h1 := HTL.out; have h2 : q - p = W := hqp.out; omega
      case b7 => exact hbel.size
      rintro e w2 ⟨rfl, hb2, hbe2⟩
      have HB2 : Hid (Lib.IsBuilder 68 5 w.heap.size w.heap.size (Lib.byteCells (Pure.text (L.take k)) ++ Lib.byteCells L[k]) w2) := .inr hb2
      have HBE : Hid (Below w.heap.size w w2) := hbel.drew.trans hbe2
      have HLN : Hid ((Lib.byteCells (Pure.text (L.take k)) ++ Lib.byteCells L[k]).length + 1 ≤ 100000) := by
        show _ ≤ _
        have h1 : (Lib.byteCells (Pure.text (L.take k))).length ≤ 2000 := HTL.out
        have h2 : (Lib.byteCells L[k]).length = W := HRL.out
        rw [List.length_append]; omega
      clear hb2 hbe2
      go_wp2_with (go_at_call 40; (with_reducible refine (wbyte_any w.heap.size w.heap.size (Lib.byteCells (Pure.text (L.take k)) ++ Lib.byteCells L[k]) 10 w2 HB2.out HLN.out HBE.out.size).mono ?_); rintro e w3 ⟨rfl, hb3, hbe3⟩)
      go_roundw
      case rel =>
        refine ⟨k + 1, hlt, by go_num, ?_, HBE.out.trans hbe3⟩
        have := HTX.out
        rw [← this]
        exact .inr hb3
      case measure => simp [intOf]; omega
    · obtain rfl : k = L.length := by omega
      have HBD : Hid (Lib.IsBuilder 68 5 w.heap.size w.heap.size (Lib.byteCells (Pure.text L)) wr) := by rw [List.take_length] at hbld; exact hbld
      clear hbld
      go_wp2_with (go_at_call 41; (with_reducible refine (Tryd.bldString w.heap.size w.heap.size (Pure.text L) wr HBD.out hbel.size).mono ?_); rintro e w3 ⟨rfl, hb3⟩)
      go_ret
      exact ⟨rfl, hbel.trans hb3⟩
end Go.Proofs.YtlkojoinbogkmaaDoor
