/- 'Pass' of a box, whole: P4. -/
import Derived.Test.YtkbgjbbniaflhaaRb
import Derived.Test.YtkbgjbbniaflhaaQp
namespace Go.Proofs.Ytkbgjbbniaflhaa
open Go.RowKit
open Go.ChangeMaps (setBlock)

theorem finish3 {w W0 w2 wz : World} {S : Nat → Prop} {g hp hi : Nat} {T : Tn} (hbW : Below w.heap.size w W0) (hs : w.heap.size + 2 ≤ W0.heap.size) (hS : ∀ k, S k → k < w.heap.size) (hA : After W0 S g hp hi T w2) (hz : Fr (fun k => k = w.heap.size + 1) w2 wz) : After w S g hp hi T wz := by
  obtain ⟨L, hT, hF⟩ := hA
  have e1 := hF.size
  have hfar : ∀ k, grow S W0 w2 k → ¬ k = w.heap.size + 1 := by
    rintro k (hk | hk) e
    · have := hS k hk; omega
    · omega
  have hT' := hT.keep hz hfar
  refine ⟨L, hT'.mono (fun k hk => ?_) (fun k hk => ?_), ?_⟩
  · rcases hk with hk | hk
    · exact .inl hk
    · have e2 := hz.size
      exact .inr ⟨by omega, by omega⟩
  · rcases hk with hk | hk
    · have := hS k hk
      have e2 := hz.size
      omega
    · exact hk.2
  · exact ((Fr.of_below hbW).trans hF).trans' hz (fun k hk hl => by omega)

set_option maxHeartbeats 4000000 in
theorem Pass_some {w : World} {b r : Nat} {C : List BC} (h : BoxC w b r C) (p : Pk) (hg : goodB p = true) {x : BC} (hx : x ∈ C) (ht : x.tag = p.tag) (hpr : 1 ≤ p.proto ∧ p.proto ≤ 3) :
    Calls Try.prog 16 #[.pointer (some ⟨b, 0, none⟩), .agg (pkC p)] w fun e w' => e = .returned (.tuple #[.agg (pkC (passF x.T p).2.1), .int .i64 (passF x.T p).2.2, .int .i64 0]) ∧ After w x.S x.g x.hp x.hi (passF x.T p).1 w' := by
  have hC := fun W => hide (isPacket_any p W)
  rw [hg] at hC
  have hL : ∀ W, Below w.heap.size w W → W.cell? ⟨b, 0, none⟩ = some (.map (some r)) ∧ (Instr.lookup 75 (.map (some r)) (.int .i64 p.tag) true).run Try.prog W.drew = .ok (.tuple #[.pointer (some ⟨x.g, 0, none⟩), .bool true]) W.drew := fun W hb => ⟨(h.new hb).cell.2, by rw [← ht]; exact (h.new hb.drew).look_some hx⟩
  have hP : ∀ W, Below w.heap.size w W → Hid (Calls Try.prog 26 #[.pointer (some ⟨x.g, 0, none⟩), .agg (pkC p)] W fun e w' => e = .returned (.tuple #[.agg (pkC (passF x.T p).2.1), .int .i64 (passF x.T p).2.2]) ∧ After W x.S x.g x.hp x.hi (passF x.T p).1 w') := fun W hb => pass_any ((h.ten x hx).1.new hb) p hpr
  have hS := (h.ten x hx).1.bound
  have l1 := h.cell.1
  generalize passF x.T p = R at *
  obtain ⟨tag, proto, out, sa, sp, da, dp, syn, fin, rst, err, qsa, qsp, qda, qdp⟩ := p
  unfold pkC at *
  dsimp only at *
  clear hg h hx hpr ht
  go_enter Try.func16, Try.ntmps16
  go_wp2_with fail
  refine (unhide (hC _)).mono ?_
  rintro e w1 ⟨rfl, hb1⟩
  have hpk : w1.heap[w.heap.size]? = some (.cells (pkC ⟨tag, proto, out, sa, sp, da, dp, syn, fin, rst, err, qsa, qsp, qda, qdp⟩) 38 (0, 0)) := (hb1.block _ (by simp; omega)).trans (blkA (blkN _ _ _ rfl))
  have hrs : w1.heap[w.heap.size + 1]? = some (.cells (pkC pk0) 38 (0, 0)) := (hb1.block _ (by simp)).trans (blkN _ _ _ (by simp))
  obtain ⟨a0, a1, a2, a3, a4, a5, a6, a7, a8, a9, a10, a11, a12, a13, a14, az⟩ := pk_cells hpk
  dsimp only at a0 a1 a2 a3 a4 a5 a6 a7 a8 a9 a10 a11 a12 a13 a14
  have hz : w.heap.size + 2 ≤ w1.heap.size := by have := hb1.size; simpa using this
  have HB : Hid (Below w.heap.size w w1) := Below.trans (((Below.refl _ _).alloc (Nat.le_refl _) _).alloc (by simp) _) (hb1.mono (by simp; omega))
  have HRS := hide hrs
  obtain ⟨k1, k2⟩ := hL _ (unhide HB)
  clear hpk hrs hb1 hC hL
  go_wp2
  go_region
  all_goals
    go_wp2_with fail
    refine (unhide (hP _ (unhide HB).drew)).mono ?_
    rintro e w2 ⟨rfl, hA⟩
    have hs2 : w.heap.size + 2 ≤ w2.heap.size := by
      obtain ⟨L2, hT2, hF2⟩ := hA
      have := hF2.size
      have e3 : w1.drew.heap.size = w1.heap.size := rfl
      omega
    have hrs2 : w2.heap[w.heap.size + 1]? = some (.cells (pkC pk0) 38 (0, 0)) := by
      obtain ⟨L2, hT2, hF2⟩ := hA
      exact hF2.some (show w1.drew.heap[w.heap.size + 1]? = _ from unhide HRS) (fun hk => by have := hS _ hk; omega)
    have HA : Hid (∀ wz, Fr (fun k => k = w.heap.size + 1) w2 wz → After w x.S x.g x.hp x.hi R.1 wz) := fun wz hz' => finish3 (unhide HB).drew hz hS hA hz'
    clear hA a0 a1 a2 a3 a4 a5 a6 a7 a8 a9 a10 a11 a12 a13 a14 az k1 k2 hP
    obtain ⟨b0, b1, b2, b3, b4, b5, b6, b7, b8, b9, b10, b11, b12, b13, b14, bz⟩ := pk_cells hrs2
    dsimp only [pk0] at b0 b1 b2 b3 b4 b5 b6 b7 b8 b9 b10 b11 b12 b13 b14
    have hne : w.heap.size + 1 ≠ w2.heap.size := by omega
    have hlt2 : w.heap.size + 1 < w2.heap.size := by omega
    clear hrs2
    go_wp2
    refine bodyPost_ret (v := .tuple #[.agg #[.int .i64 R.2.1.tag, .int .i64 R.2.1.proto, .bool R.2.1.out, .int .i64 R.2.1.sa, .int .i64 R.2.1.sp, .int .i64 R.2.1.da, .int .i64 R.2.1.dp, .bool R.2.1.syn, .bool R.2.1.fin, .bool R.2.1.rst, .bool R.2.1.err, .int .i64 R.2.1.qsa, .int .i64 R.2.1.qsp, .int .i64 R.2.1.qda, .int .i64 R.2.1.qdp], .int .i64 R.2.2, .int .i64 0]) (by simp [results, Try.results16, go_sem, b0, b1, b2, b3, b4, b5, b6, b7, b8, b9, b10, b11, b12, b13, b14, hlt2]) rfl ⟨rfl, unhide HA _ ?_⟩
    refine Fr.alloc ?_ _
    repeat (refine Fr.setO ?_)
    exact Fr.refl _ _

theorem goodB_proto {p : Pk} (h : goodB p = true) : 1 ≤ p.proto ∧ p.proto ≤ 3 := by
  unfold goodB at h
  simp only [Bool.and_eq_true, decide_eq_true_eq] at h
  exact h.1.1.1.1

theorem Pass_any {w : World} {F : Nat → Prop} {b : Nat} {B : List (Int × Tn)} (h : BoxR w F b B) (p : Pk) :
    Calls Try.prog 16 #[.pointer (some ⟨b, 0, none⟩), .agg (pkC p)] w fun e w' => e = .returned (.tuple #[.agg (pkC (passB B p).2.1), .int .i64 (passB B p).2.2.1, .int .i64 (passB B p).2.2.2]) ∧ BoxR w' (grow F w w') b (passB B p).1 ∧ Fr F w w' := by
  have hstay : ∀ w', Below w.heap.size w w' → BoxR w' (grow F w w') b B ∧ Fr F w w' := fun w' hb => by
    obtain ⟨r, C, h1, h2, h3, h4⟩ := h
    refine ⟨BoxR.mono (BoxR.new ⟨r, C, h1, h2, h3, h4⟩ hb) (fun _ hk => .inl hk) ?_, Fr.of_below hb⟩
    rintro k (hk | hk)
    · exact Nat.lt_of_lt_of_le (h4 k hk) hb.size
    · exact hk.2
  unfold passB
  cases hg : goodB p
  · refine (Pass_bad b p w hg).mono ?_
    rintro e w' ⟨rfl, hb⟩
    exact ⟨rfl, hstay w' hb⟩
  · rw [if_pos rfl]
    obtain ⟨r, C, h1, h2, h3, h4⟩ := h
    cases hf : B.find? (isT p.tag) with
    | none =>
      refine (Pass_none h1 p hg (fun x hx e => ?_)).mono ?_
      · have := List.find?_eq_none.1 hf (x.tag, x.T) (by rw [← h2]; exact List.mem_map.2 ⟨x, hx, rfl⟩)
        simp [isT, e] at this
      · rintro e w' ⟨rfl, hb⟩
        exact ⟨rfl, hstay w' hb⟩
    | some y =>
      dsimp only
      have hy := List.mem_of_find?_eq_some hf
      have hty : y.1 = p.tag := by have := List.find?_some hf; simpa [isT] using this
      rw [← h2] at hy
      obtain ⟨x, hx, rfl⟩ := List.mem_map.1 hy
      dsimp only at hty
      refine (Pass_some h1 p hg hx hty (goodB_proto hg)).mono ?_
      rintro e w' ⟨rfl, L', hT, hF⟩
      refine ⟨rfl, ⟨r, _, h1.upd hx hT hF (fun k hk => h4 k (h3 k hk)), ?_, ?_, ?_⟩, hF.mono (fun k hk _ => h3 k (.inr (.inr ⟨x, hx, hk⟩)))⟩
      · rw [← h2]
        unfold putT
        rw [List.map_map, List.map_map]
        refine List.map_congr_left (fun z hz => ?_)
        show (fun x => (x.tag, x.T)) (if z.tag = x.tag then (⟨x.tag, _, x.g, x.hp, x.hi, grow x.S w w', L'⟩ : BC) else z) = if isT p.tag (z.tag, z.T) then _ else _
        by_cases e : z.tag = x.tag
        · rw [if_pos e, if_pos (by simp [isT, e, hty])]
          show (x.tag, _) = (z.tag, _)
          rw [e]
        · rw [if_neg e, if_neg (by simp [isT]; rw [← hty]; exact e)]
      · rintro k (hk | hk | ⟨z, hz, hk⟩)
        · exact .inl (h3 k (.inl hk))
        · exact .inl (h3 k (.inr (.inl hk)))
        · obtain ⟨y, hy, rfl⟩ := List.mem_map.1 hz
          by_cases e : y.tag = x.tag
          · rw [if_pos e] at hk
            rcases hk with hk | hk
            · exact .inl (h3 k (.inr (.inr ⟨x, hx, hk⟩)))
            · exact .inr hk
          · rw [if_neg e] at hk
            exact .inl (h3 k (.inr (.inr ⟨y, hy, hk⟩)))
      · rintro k (hk | hk)
        · exact Nat.lt_of_lt_of_le (h4 k hk) hF.size
        · exact hk.2

end Go.Proofs.Ytkbgjbbniaflhaa
