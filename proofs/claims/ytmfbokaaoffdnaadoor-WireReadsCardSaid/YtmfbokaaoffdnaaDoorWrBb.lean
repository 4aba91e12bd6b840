/-
  The document's Bytes of a packet that may not be.
-/
import Derived.Test.YtmfbokaaoffdnaaDoorWrZ
import Derived.Test.YtmfbokaaoffdnaaDoorWrQ
import Derived.Test.YtmfbokaaoffdnaaDoorWrS0
namespace Go.Proofs.YtmfbokaaoffdnaaDoor
set_option maxRecDepth 100000
set_option linter.unusedSimpArgs false
open Go Go.RowKit Wr

theorem rbytes_no {w : World} (p : Pkt) {A : Option Addr} (cap : Nat) (hC : ClaimsAt w A p.msg.claims) (hf : Fits p) (hok : okP p = false) :
    Calls Tryd.prog 10 #[pktA p A p.msg.claims.length cap] w fun e w' => e = .returned (.tuple #[.slice none 0 0, .int .i64 71]) ∧ Below w.heap.size w w' := by
  have HM : Hid (∀ o, Calls Tryd.prog 5 #[pktA p A p.msg.claims.length cap] (w.alloc o) fun e w' => e = .returned (.bool false) ∧ Below (w.alloc o).heap.size (w.alloc o) w') := fun o => by
    have := rmayP_any p cap (hC.below ((Below.refl _ w).alloc (Nat.le_refl _) o)) hf.gen hf.stamp
    rwa [hok] at this
  have hbx := World.alloc_heap_new w (.cells (pktC p A p.msg.claims.length cap) 28)
  have HBX := Lib.hid hbx
  clear hbx hC hf hok
  obtain ⟨PO, hPO⟩ : ∃ PO : Ending → World → Prop, PO = fun e w' => e = .returned (.tuple #[.slice none 0 0, .int .i64 71]) ∧ Below w.heap.size w w' := ⟨_, rfl⟩
  have HQ := Lib.hid hPO
  rw [← hPO]
  clear hPO
  obtain ⟨n, hn⟩ : ∃ n, n = p.msg.claims.length := ⟨_, rfl⟩
  rw [← hn] at HM HBX ⊢
  clear hn
  simp only [pktA] at HM ⊢
  go_enter Tryd.func10, Tryd.ntmps10
  go_wp2_with fail
  refine (HM.out _).mono ?_
  rintro e w1 ⟨rfl, hb1⟩
  have HB1 : Hid (Below w.heap.size w w1) := ((Below.refl _ w).alloc (Nat.le_refl _) _).trans (hb1.mono (by simp))
  clear hb1 HM HBX
  go_wp2_with fail
  rw [HQ.out]
  exact ⟨rfl, HB1.out⟩
end Go.Proofs.YtmfbokaaoffdnaaDoor
