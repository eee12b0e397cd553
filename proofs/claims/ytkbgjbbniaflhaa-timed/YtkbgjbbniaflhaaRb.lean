/- 'Pass' of a box: no packet; no tenant. -/
import Derived.Test.YtkbgjbbniaflhaaRa
import Derived.Test.YtkbgjbbniaflhaaQi
namespace Go.Proofs.Ytkbgjbbniaflhaa
open Go.RowKit
open Go.ChangeMaps (setBlock)

theorem BoxC.cell {w : World} {b r : Nat} {C : List BC} (h : BoxC w b r C) : b < w.heap.size ∧ w.cell? ⟨b, 0, none⟩ = some (.map (some r)) := by
  have hb := h.blk
  exact ⟨(Array.getElem?_eq_some_iff.1 hb).1, by simp [World.cell?, hb]⟩

theorem BoxC.new {w w' : World} {b r : Nat} {C : List BC} (h : BoxC w b r C) (hb : Below w.heap.size w w') : BoxC w' b r C := h.keep (X := fun _ => False) (Fr.of_below hb) (fun _ _ f => f)

theorem keysB {es : Array MapEntry} {C : List BC} (h : es.toList.map (fun e => (e.key, e.val)) = C.map (fun x => (Value.int .i64 x.tag, ptrV x.g))) : (∀ e ∈ es.toList, ∃ x ∈ C, e.key = .int .i64 x.tag ∧ e.val = ptrV x.g) ∧ ∀ x ∈ C, ∃ e ∈ es.toList, e.key = .int .i64 x.tag ∧ e.val = ptrV x.g := by
  constructor
  · intro e he
    have : (e.key, e.val) ∈ es.toList.map (fun e => (e.key, e.val)) := List.mem_map.2 ⟨e, he, rfl⟩
    rw [h] at this
    obtain ⟨x, hx, e'⟩ := List.mem_map.1 this
    exact ⟨x, hx, (Prod.mk.inj e').1.symm, (Prod.mk.inj e').2.symm⟩
  · intro x hx
    have : (Value.int .i64 x.tag, ptrV x.g) ∈ C.map (fun x => (Value.int .i64 x.tag, ptrV x.g)) := List.mem_map.2 ⟨x, hx, rfl⟩
    rw [← h] at this
    obtain ⟨e, he, e'⟩ := List.mem_map.1 this
    exact ⟨e, he, (Prod.mk.inj e').1, (Prod.mk.inj e').2⟩

theorem BoxC.look_none {w : World} {b r : Nat} {C : List BC} (h : BoxC w b r C) (tag : Int) (hn : ∀ x ∈ C, x.tag ≠ tag) :
    (Instr.lookup 75 (.map (some r)) (.int .i64 tag) true).run Try.prog w = .ok (.tuple #[.pointer none, .bool false]) w := by
  obtain ⟨es, c, h1, h2, _⟩ := h.map
  refine run_look_none w r es c tag h1 (fun e he => ?_)
  obtain ⟨x, hx, hk, _⟩ := (keysB h2).1 e he
  exact ⟨x.tag, hk, hn x hx⟩

theorem BoxC.look_some {w : World} {b r : Nat} {C : List BC} (h : BoxC w b r C) {x : BC} (hx : x ∈ C) :
    (Instr.lookup 75 (.map (some r)) (.int .i64 x.tag) true).run Try.prog w = .ok (.tuple #[.pointer (some ⟨x.g, 0, none⟩), .bool true]) w := by
  obtain ⟨es, c, h1, h2, _⟩ := h.map
  obtain ⟨k1, k2⟩ := keysB h2
  obtain ⟨e0, he0, hk0, _⟩ := k2 x hx
  obtain ⟨e, he, hk, hr⟩ := run_look_some w r es c x.tag h1 (fun e he => by obtain ⟨y, _, hk, _⟩ := k1 e he; exact ⟨_, hk⟩) ⟨e0, he0, hk0⟩
  obtain ⟨y, hy, hky, hv⟩ := k1 e he
  have e1 : y.tag = x.tag := int_inj (hky.symm.trans hk)
  have e2 : y = x := pw_eq h.apart hy hx (fun q => q.1 e1) (fun q => q.1 e1.symm)
  rw [hv, e2] at hr
  exact hr

set_option maxHeartbeats 2000000 in
theorem Pass_bad (b : Nat) (p : Pk) (w : World) (hg : goodB p = false) :
    Calls Try.prog 16 #[.pointer (some ⟨b, 0, none⟩), .agg (pkC p)] w fun e w' => e = .returned (.tuple #[.agg (pkC pk0), .int .i64 0, .int .i64 4]) ∧ Below w.heap.size w w' := by
  have hC := fun W => hide (isPacket_any p W)
  rw [hg] at hC
  obtain ⟨tag, proto, out, sa, sp, da, dp, syn, fin, rst, err, qsa, qsp, qda, qdp⟩ := p
  unfold pkC at *
  dsimp only [pk0] at *
  clear hg
  go_enter Try.func16, Try.ntmps16
  go_wp2_with fail
  refine (unhide (hC _)).mono ?_
  rintro e w1 ⟨rfl, hb1⟩
  obtain ⟨hc, hf⟩ := bcell hb1
  have hz : w.heap.size + 2 ≤ w1.heap.size := by have := hb1.size; simpa using this
  have HB : Hid (Below w.heap.size w w1) := Below.trans (((Below.refl _ _).alloc (Nat.le_refl _) _).alloc (by simp) _) (hb1.mono (by simp; omega))
  clear hb1 hC
  go_wp2
  refine bodyPost_ret (v := .tuple #[pk0V, .int .i64 0, .int .i64 4]) (by simp [results, Try.results16, go_sem, pk0V, hc]) rfl ⟨rfl, ?_⟩
  repeat (refine Below.setCell ?_ (by simp) _)
  exact unhide HB

set_option maxHeartbeats 2000000 in
theorem Pass_none {w : World} {b r : Nat} {C : List BC} (h : BoxC w b r C) (p : Pk) (hg : goodB p = true) (hn : ∀ x ∈ C, x.tag ≠ p.tag) :
    Calls Try.prog 16 #[.pointer (some ⟨b, 0, none⟩), .agg (pkC p)] w fun e w' => e = .returned (.tuple #[.agg (pkC pk0), .int .i64 1, .int .i64 0]) ∧ Below w.heap.size w w' := by
  have hC := fun W => hide (isPacket_any p W)
  rw [hg] at hC
  have hL : ∀ W, Below w.heap.size w W → W.cell? ⟨b, 0, none⟩ = some (.map (some r)) ∧ (Instr.lookup 75 (.map (some r)) (.int .i64 p.tag) true).run Try.prog W.drew = .ok (.tuple #[.pointer none, .bool false]) W.drew := fun W hb => ⟨(h.new hb).cell.2, (h.new hb.drew).look_none p.tag hn⟩
  have l1 := h.cell.1
  obtain ⟨tag, proto, out, sa, sp, da, dp, syn, fin, rst, err, qsa, qsp, qda, qdp⟩ := p
  unfold pkC at *
  dsimp only [pk0] at *
  clear hg h hn
  go_enter Try.func16, Try.ntmps16
  go_wp2_with fail
  refine (unhide (hC _)).mono ?_
  rintro e w1 ⟨rfl, hb1⟩
  have hpk : w1.heap[w.heap.size]? = some (.cells (pkC ⟨tag, proto, out, sa, sp, da, dp, syn, fin, rst, err, qsa, qsp, qda, qdp⟩) 38 (0, 0)) := (hb1.block _ (by simp; omega)).trans (blkA (blkN _ _ _ rfl))
  have hrs : w1.heap[w.heap.size + 1]? = some (.cells (pkC pk0) 38 (0, 0)) := (hb1.block _ (by simp)).trans (blkN _ _ _ (by simp))
  have a0 := (pk_cells hpk).1
  obtain ⟨b0, b1, b2, b3, b4, b5, b6, b7, b8, b9, b10, b11, b12, b13, b14, bz⟩ := pk_cells hrs
  dsimp only [pk0] at a0 b0 b1 b2 b3 b4 b5 b6 b7 b8 b9 b10 b11 b12 b13 b14
  have hz : w.heap.size + 2 ≤ w1.heap.size := by have := hb1.size; simpa using this
  have HB : Hid (Below w.heap.size w w1) := Below.trans (((Below.refl _ _).alloc (Nat.le_refl _) _).alloc (by simp) _) (hb1.mono (by simp; omega))
  obtain ⟨k1, k2⟩ := hL _ (unhide HB)
  clear hpk hrs hb1 hC hL
  go_wp2
  go_region
  all_goals
    go_wp2
    refine bodyPost_ret (v := .tuple #[pk0V, .int .i64 1, .int .i64 0]) (by simp [results, Try.results16, go_sem, pk0V, b0, b1, b2, b3, b4, b5, b6, b7, b8, b9, b10, b11, b12, b13, b14]) rfl ⟨rfl, ?_⟩
    refine Below.drew ?_
    repeat (refine Below.setCell ?_ (by simp) _)
    exact unhide HB

end Go.Proofs.Ytkbgjbbniaflhaa
