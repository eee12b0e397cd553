/- 'tells': the program's table and the document's agree; the list that came out is marked. -/
import Derived.Test.YtgpplekabohneaaHf
namespace Go.Proofs.Ytgpplekabohneaa.B0
open Go.RowKit

attribute [local go_sem ↓] Go.wp_at_zero Go.wp_at_succ

theorem tableRef_any (q : Nat) (S : Nat → Prop) (ts : List Ten) (tag : Int) (w : World) (hR : RefBox w S q ts) :
    Calls Try.prog 56 #[.pointer (some ⟨q, 0, none⟩), .int .i64 tag] w fun e w' => e = .returned (.tuple #[.slice none 0 0, .int .i64 (tabErr ts tag)]) ∧ w' = w := by
  obtain ⟨_, h8, hok, v, hq, h | ⟨b, off, cap, rfl, _, hc, hm, hb, hT⟩⟩ := hR
  · obtain ⟨rfl, rfl⟩ := h
    exact tableRef_nil q tag w hq
  · exact tableRef_some q b off ts.length cap ts tag w hq rfl h8 hc hm hT hok

section
variable {W : World} {B wb : Nat} {bs : List (Nat × Nat × List Ten)} {bv mv zv : Value} {ys : List Value} {cs : List Nat} {c : Nat}

/-- an empty list in new blocks -/
theorem TabInv.withL (h : TabInv W B wb bs bv mv zv nilS ys [] cs c 0 0) {w' : World} {ap : Option Addr} {l0 : Nat} (hb : Below W.heap.size W w') (hO : w'.ownsRow W.heap.size 52 7 (.slice ap 0 l0) 0 []) : TabInv w' B wb bs bv mv zv (.slice ap 0 l0) ys [] cs c 0 0 := by
  have hwb := (Array.getElem?_eq_some_iff.1 h.blk).1
  have h' := h.below hb
  have own : ∀ k, (Value.slice ap 0 l0).ownBlock = some k → W.heap.size ≤ k := fun k hk => (hO.lt k hk).1
  have hfree : ∀ k, Free wb bv mv zv nilS k → k < W.heap.size → Free wb bv mv zv (.slice ap 0 l0) k := fun k hf hk => ⟨hf.1, hf.2.1, hf.2.2.1, hf.2.2.2.1, fun e => by have := own k e; omega⟩
  have hblk : ∀ k, Free wb bv mv zv nilS k → k < W.heap.size → w'.heap[k]? = W.heap[k]? := fun k _ hk => hb.block k hk
  refine ⟨h'.blk, h.base, h'.bown, h'.mown, h'.zown, ?_, h.len, h.nb, h.wbv, h.wmv, h.wzv, ?_, h.bm, h.bz, ?_, h.mz, ?_, ?_, ?_, ?_, ?_, by simp, h.small⟩
  · exact ⟨rfl, by
      rcases hO.2 with h0 | ⟨g, cap, cur, e, h1, h2⟩
      · exact .inl h0
      · exact .inr ⟨g, cap, cur, e, by have := h.base; omega, h2⟩⟩
  · intro e
    have := own wb e
    omega
  · intro k hk e
    have := own k e
    have := (h.bown.lt k hk).2
    omega
  · intro k hk e
    have := own k e
    have := (h.mown.lt k hk).2
    omega
  · intro k hk e
    have := own k e
    have := (h.zown.lt k hk).2
    omega
  · exact fun x hx => (h.pboxes x hx).keep hb.size hfree hblk
  · exact fun x hx => (h.rboxes x hx).keep hb.size hfree hblk
  · exact fun i h1 h2 => (h.marks i h1 h2).keep (Nat.le_refl _) hb.size hfree hblk
end

set_option maxRecDepth 100000 in
set_option maxHeartbeats 1000000 in
theorem tells_any (w : World) (B wb : Nat) (bs : List (Nat × Nat × List Ten)) (bv mv zv : Value) (ys : List Value) (cs : List Nat) (c : Nat) (h : Inv w B wb bs bv mv zv ys cs c) (hc : c ≤ 1760000000000) (p q : Nat) (ts : List Ten) (hx : (p, q, ts) ∈ bs) (tag : Int) :
    Calls Try.prog 35 #[.pointer (some ⟨wb, 0, none⟩), .agg #[.pointer (some ⟨p, 0, none⟩), .pointer (some ⟨q, 0, none⟩)], .int .i64 tag] w fun e w' =>
      e = .returned (.bool true) ∧ Below B w w' ∧ ∃ mv' zv' ys' cs', Inv w' B wb bs bv mv' zv' ys' cs' (c + 1) := by
  obtain ⟨hT, hfew⟩ := h
  have hBw : B ≤ w.heap.size := by have := hT.base; have := (Array.getElem?_eq_some_iff.1 hT.blk).1; omega
  have H := hide hT
  have HX := hide hx
  clear hT hx
  go_enter Try.func35, Try.ntmps35
  go_wp2_with fail
  have hb1 : Below w.heap.size w (w.alloc (.cells #[.pointer (some ⟨p, 0, none⟩), .pointer (some ⟨q, 0, none⟩)] 94)) := (Below.refl _ _).alloc (Nat.le_refl _) _
  have hT1 := (unhide H).below hb1
  have hB1 : Below B w (w.alloc (.cells #[.pointer (some ⟨p, 0, none⟩), .pointer (some ⟨q, 0, none⟩)] 94)) := hb1.mono hBw
  have c0 : (w.alloc (.cells #[.pointer (some ⟨p, 0, none⟩), .pointer (some ⟨q, 0, none⟩)] 94)).cell? ⟨w.heap.size, 1, none⟩ = some (.pointer (some ⟨q, 0, none⟩)) := by simp
  have hBs : B ≤ (w.alloc (.cells #[.pointer (some ⟨p, 0, none⟩), .pointer (some ⟨q, 0, none⟩)] 94)).heap.size := by simp; omega
  refine (table_any p _ ts tag _ (hT1.pboxes _ (unhide HX))).mono ?_
  generalize (w.alloc (.cells #[.pointer (some ⟨p, 0, none⟩), .pointer (some ⟨q, 0, none⟩)] 94)) = w1 at *
  have H1 := hide hT1
  have HB1 := hide hB1
  clear hT1 hB1 hb1
  rintro e w2 (⟨ht, ap, l0, rfl, hO2, hb2⟩ | ⟨ht, rfl, rfl⟩)
  · have hte : tabErr ts tag = 0 := by unfold tabErr; rw [ht]; rfl
    have HT2 := hide ((unhide H1).withL hb2 hO2)
    have HB2 := hide hb2
    have HCR := tableRef_any q _ ts tag w2 ((unhide HT2).rboxes _ (unhide HX))
    rw [hte] at HCR
    have HR := hide HCR
    have c1 := (hb2.cell (p := ⟨_, 1, none⟩) (World.block_lt_of_cell? _ _ c0)).trans c0
    clear HCR ht hte c0 hO2 hb2
    go_wp2_with fail
    refine (unhide HR).mono ?_
    rintro e w3 ⟨rfl, hw3⟩
    have hw4 := hw3.symm
    subst hw4
    clear HR hw3
    go_wp2
    go_loopg [11, 12] 1 (fun z ok i wr => ok = .bool true ∧ i = .int .i64 0 ∧ wr = w2)
    case atStart => exact ⟨rfl, rfl, rfl⟩
    case round =>
      obtain ⟨rfl, rfl, hwr⟩ := hrel
      have HWR := hide hwr
      have HTW := unhide HT2
      rw [← hwr] at HTW
      have HCT := hide (wtable_any wr B wb bs bv mv zv ys cs c _ _ HTW hfew hc)
      have HBW : Hid (Below B w wr) := by
        rw [hwr]
        exact (unhide HB1).trans ((unhide HB2).mono hBs)
      clear hwr HTW HT2 HWR
      go_wp2_with fail
      refine (unhide HCT).mono ?_
      rintro e w4 ⟨rfl, hb4, hinv⟩
      have HI := hide hinv
      have HB4 := hide hb4
      clear hinv hb4 HCT
      go_wp2
      go_ret
      exact ⟨rfl, (unhide HBW).trans (unhide HB4), unhide HI⟩
  · have hte : tabErr ts tag = 5 := by unfold tabErr; rw [ht]; rfl
    have HT2 := hide (unhide H1)
    have HCR := tableRef_any q _ ts tag w2 ((unhide HT2).rboxes _ (unhide HX))
    rw [hte] at HCR
    have HR := hide HCR
    clear HCR ht hte
    go_wp2_with fail
    refine (unhide HR).mono ?_
    rintro e w3 ⟨rfl, hw3⟩
    have hw4 := hw3.symm
    subst hw4
    clear HR hw3
    go_wp2
    go_loopg [11, 12] 1 (fun z ok i wr => ok = .bool true ∧ i = .int .i64 0 ∧ wr = w2)
    case atStart => exact ⟨rfl, rfl, rfl⟩
    case round =>
      obtain ⟨rfl, rfl, hwr⟩ := hrel
      have HWR := hide hwr
      have HTW := unhide HT2
      rw [← hwr] at HTW
      have HCT := hide (wtable_any wr B wb bs bv mv zv ys cs c _ _ HTW hfew hc)
      have HBW : Hid (Below B w wr) := by
        rw [hwr]
        exact unhide HB1
      clear hwr HTW HT2 HWR
      go_wp2_with fail
      refine (unhide HCT).mono ?_
      rintro e w4 ⟨rfl, hb4, hinv⟩
      have HI := hide hinv
      have HB4 := hide hb4
      clear hinv hb4 HCT
      go_wp2
      go_ret
      exact ⟨rfl, (unhide HBW).trans (unhide HB4), unhide HI⟩

end Go.Proofs.Ytgpplekabohneaa.B0
