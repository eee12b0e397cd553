/- 'tells': the program's table and the document's agree; the list that came out is marked. -/
import Derived.Test.YtgiafiifoegokaaXl
namespace Go.Proofs.Ytgiafiifoegokaa
open Go.RowKit

attribute [local go_sem ↓] Go.wp_at_zero Go.wp_at_succ

theorem tableRef_any (q : Nat) (S : Nat → Prop) (ts : List Ten) (tag : Int) (w : World) (hR : RefBox w S q ts) :
    Calls Try.prog 18 #[.pointer (some ⟨q, 0, none⟩), .int .i64 tag] w fun e w' => e = .returned (.tuple #[.slice none 0 0, .int .i64 (tabErr ts tag)]) ∧ w' = w := by
  obtain ⟨_, h8, hok, v, hq, h | ⟨b, off, cap, rfl, _, hc, hm, hb, hT⟩⟩ := hR
  · obtain ⟨rfl, rfl⟩ := h
    exact tableRef_nil q tag w hq
  · exact tableRef_some q b off ts.length cap ts tag w hq rfl h8 hc hm hT hok

section
variable {W : World} {B wb : Nat} {bs : List (Nat × Nat × List Ten)} {bv mv zv : Value} {ys : List Value} {cs : List Nat} {c : Nat}

/-- an empty list in a new block -/
theorem TabInv.withL (h : TabInv W B wb bs bv mv zv nilS ys [] cs c 0 0) : TabInv (W.alloc (.cells #[] 61)) B wb bs bv mv zv (.slice (some ⟨W.heap.size, 0, none⟩) 0 0) ys [] cs c 0 0 := by
  have hb : Below W.heap.size W (W.alloc (.cells #[] 61)) := (Below.refl _ _).alloc (Nat.le_refl _) _
  have hwb := (Array.getElem?_eq_some_iff.1 h.blk).1
  have h' := h.below hb
  have own : ∀ k, (Value.slice (some ⟨W.heap.size, 0, none⟩) 0 0).ownBlock = some k → k = W.heap.size := fun k hk => by simpa [Value.ownBlock] using hk.symm
  have hfree : ∀ k, Free wb bv mv zv nilS k → k < W.heap.size → Free wb bv mv zv (.slice (some ⟨W.heap.size, 0, none⟩) 0 0) k := fun k hf hk => ⟨hf.1, hf.2.1, hf.2.2.1, hf.2.2.2.1, fun e => by have := own k e; omega⟩
  have hblk : ∀ k, Free wb bv mv zv nilS k → k < W.heap.size → (W.alloc (.cells #[] 61)).heap[k]? = W.heap[k]? := fun k _ hk => hb.block k hk
  refine ⟨h'.blk, h.base, h'.bown, h'.mown, h'.zown, ?_, h.len, h.nb, h.wbv, h.wmv, h.wzv, ?_, h.bm, h.bz, ?_, h.mz, ?_, ?_, ?_, ?_, ?_, by simp, h.small⟩
  · exact World.ownsRow_made W #[] 0 (by have := h.base; omega) (by unfold maxLen; omega) (by simp)
  · intro e
    have := own wb e
    omega
  · intro k hk e
    have := own k e
    have := (h.bown.lt k hk).2
    omega
  · intro k hk e
    have := own k e
    have := (h.mown.lt k hk).2
    omega
  · intro k hk e
    have := own k e
    have := (h.zown.lt k hk).2
    omega
  · exact fun x hx => (h.pboxes x hx).keep hfree hblk
  · exact fun x hx => (h.rboxes x hx).keep hb.size hfree hblk
  · exact fun i h1 h2 => (h.marks i h1 h2).keep (Nat.le_refl _) hb.size hfree hblk
end

set_option maxRecDepth 100000 in
set_option maxHeartbeats 1000000 in
theorem tells_any (w : World) (B wb : Nat) (bs : List (Nat × Nat × List Ten)) (bv mv zv : Value) (ys : List Value) (cs : List Nat) (c : Nat) (h : Inv w B wb bs bv mv zv ys cs c) (hc : c ≤ 1760000000000) (p q : Nat) (ts : List Ten) (hx : (p, q, ts) ∈ bs) (tag : Int) :
    Calls Try.prog 9 #[.pointer (some ⟨wb, 0, none⟩), .agg #[.pointer (some ⟨p, 0, none⟩), .pointer (some ⟨q, 0, none⟩)], .int .i64 tag] w fun e w' =>
      e = .returned (.bool true) ∧ Below B w w' ∧ ∃ mv' zv' ys' cs', Inv w' B wb bs bv mv' zv' ys' cs' (c + 1) := by
  obtain ⟨hT, hfew⟩ := h
  have hBw : B ≤ w.heap.size := by have := hT.base; have := (Array.getElem?_eq_some_iff.1 hT.blk).1; omega
  have H := hide hT
  have HX := hide hx
  clear hT hx
  go_enter Try.func9, Try.ntmps9
  go_wp2_with fail
  have hb1 : Below w.heap.size w (w.alloc (.cells #[.pointer (some ⟨p, 0, none⟩), .pointer (some ⟨q, 0, none⟩)] 51)) := (Below.refl _ _).alloc (Nat.le_refl _) _
  have hT1 := (unhide H).below hb1
  have hB1 : Below B w (w.alloc (.cells #[.pointer (some ⟨p, 0, none⟩), .pointer (some ⟨q, 0, none⟩)] 51)) := hb1.mono hBw
  have c0 : (w.alloc (.cells #[.pointer (some ⟨p, 0, none⟩), .pointer (some ⟨q, 0, none⟩)] 51)).cell? ⟨w.heap.size, 1, none⟩ = some (.pointer (some ⟨q, 0, none⟩)) := by simp
  have hBs : B ≤ (w.alloc (.cells #[.pointer (some ⟨p, 0, none⟩), .pointer (some ⟨q, 0, none⟩)] 51)).heap.size := by simp; omega
  refine (table_any p _ ts tag _ (hT1.pboxes _ (unhide HX))).mono ?_
  generalize (w.alloc (.cells #[.pointer (some ⟨p, 0, none⟩), .pointer (some ⟨q, 0, none⟩)] 51)) = w1 at *
  have H1 := hide hT1
  have HB1 := hide hB1
  clear hT1 hB1 hb1
  rintro e w2 (⟨ht, rfl, rfl⟩ | ⟨ht, rfl, rfl⟩)
  · have hte : tabErr ts tag = 0 := by unfold tabErr; rw [ht]; rfl
    have HT2 := hide (unhide H1).withL
    have HCR := tableRef_any q _ ts tag (w1.alloc (.cells #[] 61)) ((unhide HT2).rboxes _ (unhide HX))
    rw [hte] at HCR
    have HR := hide HCR
    have c1 := cellA (o := .cells #[] 61) c0
    clear HCR ht hte c0
    go_wp2_with fail
    refine (unhide HR).mono ?_
    rintro e w3 ⟨rfl, rfl⟩
    clear HR
    go_wp2
    go_loopg [11, 12] 1 (fun z ok i wr => ok = .bool true ∧ i = .int .i64 0 ∧ wr = w1.alloc (Obj.cells #[] 61))
    case atStart => exact ⟨rfl, rfl, rfl⟩
    case round =>
      obtain ⟨rfl, rfl, hwr⟩ := hrel
      have HWR := hide hwr
      have HTW := unhide HT2
      rw [← hwr] at HTW
      have HCT := hide (wtable_any wr B wb bs bv mv zv ys cs c _ HTW hfew hc)
      have HBW : Hid (Below B w wr) := by
        rw [hwr]
        exact (unhide HB1).alloc hBs _
      clear hwr HTW HT2 HWR
      go_wp2_with fail
      refine (unhide HCT).mono ?_
      rintro e w4 ⟨rfl, hb4, hinv⟩
      have HI := hide hinv
      have HB4 := hide hb4
      clear hinv hb4 HCT
      go_wp2
      go_ret
      exact ⟨rfl, (unhide HBW).trans (unhide HB4), unhide HI⟩
  · have hte : tabErr ts tag = 5 := by unfold tabErr; rw [ht]; rfl
    have HT2 := hide (unhide H1)
    have HCR := tableRef_any q _ ts tag w2 ((unhide HT2).rboxes _ (unhide HX))
    rw [hte] at HCR
    have HR := hide HCR
    clear HCR ht hte
    go_wp2_with fail
    refine (unhide HR).mono ?_
    rintro e w3 ⟨rfl, hw3⟩
    have hw4 := hw3.symm
    subst hw4
    clear HR hw3
    go_wp2
    go_loopg [11, 12] 1 (fun z ok i wr => ok = .bool true ∧ i = .int .i64 0 ∧ wr = w2)
    case atStart => exact ⟨rfl, rfl, rfl⟩
    case round =>
      obtain ⟨rfl, rfl, hwr⟩ := hrel
      have HWR := hide hwr
      have HTW := unhide HT2
      rw [← hwr] at HTW
      have HCT := hide (wtable_any wr B wb bs bv mv zv ys cs c _ HTW hfew hc)
      have HBW : Hid (Below B w wr) := by
        rw [hwr]
        exact unhide HB1
      clear hwr HTW HT2 HWR
      go_wp2_with fail
      refine (unhide HCT).mono ?_
      rintro e w4 ⟨rfl, hb4, hinv⟩
      have HI := hide hinv
      have HB4 := hide hb4
      clear hinv hb4 HCT
      go_wp2
      go_ret
      exact ⟨rfl, (unhide HBW).trans (unhide HB4), unhide HI⟩

end Go.Proofs.Ytgiafiifoegokaa
