/- 'Pass' of the document: what is no packet, and whose tag is no tenant's; the whole. -/
import Derived.Test.YtgpplekabohneaaJp
import Derived.Test.YtgpplekabohneaaJq
import Derived.Test.YtgpplekabohneaaJr
namespace Go.Proofs.Ytgpplekabohneaa
open Go.RowKit

section
variable {w : World} {S : Nat → Prop} {r : Nat} {tv lv : Value} {ts : List Ten} {L : List RCl}

set_option maxHeartbeats 4000000 in
set_option maxRecDepth 100000 in
theorem rpass_bad (h : RefR w S r tv lv ts L) (p : Pk) (hgood : goodB p = false) :
    Calls Try.prog 59 #[.pointer (some ⟨r, 0, none⟩), .agg (pkC p)] w fun e w' => e = .returned (.tuple #[.agg (pkC pk0), .int .i64 0, .int .i64 4]) ∧ Below w.heap.size w w' := by
  have HG := fun W => hide (rgood_any p W)
  rw [hgood] at HG
  obtain ⟨c0, c1, cz, hr⟩ := h.cells
  clear hgood h c0 c1 cz
  obtain ⟨tag, proto, out, sa, sp, da, dp, syn, fin, rst, err, qsa, qsp, qda, qdp⟩ := p
  unfold pkC at HG
  unfold pkC
  dsimp only at HG
  dsimp only
  go_enter Try.func59, Try.ntmps59
  go_wp2_with fail
  refine (unhide (HG _)).mono ?_
  rintro e w1 ⟨rfl, hb1⟩
  have q1 : w1.heap[w.heap.size]? = some (.cells (pkC ⟨tag, proto, out, sa, sp, da, dp, syn, fin, rst, err, qsa, qsp, qda, qdp⟩) 38 (0, 0)) := (hb1.block _ (by simp; omega)).trans (by first | exact blkA (blkA (blkN _ _ _ rfl)) | simp [World.alloc, World.setCell, pkC])
  have q2 : w1.heap[w.heap.size + 1]? = some (.cells (pkC pk0) 38 (0, 0)) := (hb1.block _ (by simp)).trans (by first | exact blkA (blkN _ _ _ (by simp)) | simp [World.alloc, World.setCell, pkC, pk0])
  have q3 : w1.heap[w.heap.size + 1 + 1]? = some (.cells (pkC pk0) 38 (0, 0)) := (hb1.block _ (by simp)).trans (by first | exact blkN _ _ _ (by simp) | simp [World.alloc, World.setCell, pkC, pk0])
  have HB1 : Hid (Below w.heap.size w w1) := Below.trans ((((Below.refl _ _).alloc (Nat.le_refl _) _).alloc (by simp) _).alloc (by simp; omega) _) (hb1.mono (by simp; omega))
  have hl3 : w.heap.size + 1 + 1 < w1.heap.size := (Array.getElem?_eq_some_iff.1 q3).1
  have hl1 : w.heap.size < w1.heap.size := by omega
  have hl2 : w.heap.size + 1 < w1.heap.size := by omega
  obtain ⟨p0, p1, p2, p3, p4, p5, p6, p7, p8, p9, p10, p11, p12, p13, p14, pz⟩ := pk_cells q1
  dsimp only at p0 p1 p2 p3 p4 p5 p6 p7 p8 p9 p10 p11 p12 p13 p14
  obtain ⟨b0, b1, b2, b3, b4, b5, b6, b7, b8, b9, b10, b11, b12, b13, b14, bz⟩ := pk_cells q2
  dsimp only [pk0] at b0 b1 b2 b3 b4 b5 b6 b7 b8 b9 b10 b11 b12 b13 b14
  obtain ⟨n0, n1, n2, n3, n4, n5, n6, n7, n8, n9, n10, n11, n12, n13, n14, nz⟩ := pk_cells q3
  dsimp only [pk0] at n0 n1 n2 n3 n4 n5 n6 n7 n8 n9 n10 n11 n12 n13 n14
  clear q1 q2 q3 hb1
  clear HG
  go_wp2
  refine bodyPost_ret (v := .tuple #[.agg #[.int .i64 0, .int .i64 0, .bool false, .int .i64 0, .int .i64 0, .int .i64 0, .int .i64 0, .bool false, .bool false, .bool false, .bool false, .int .i64 0, .int .i64 0, .int .i64 0, .int .i64 0], .int .i64 0, .int .i64 4]) (by simp [results, Try.results59, go_sem, b0, b1, b2, b3, b4, b5, b6, b7, b8, b9, b10, b11, b12, b13, b14]) rfl ?_
  refine ⟨rfl, ?_⟩
  repeat (refine Below.setCell ?_ (by simp) _)
  exact unhide HB1

set_option maxHeartbeats 4000000 in
set_option maxRecDepth 100000 in
theorem rpass_none (h : RefR w S r tv lv ts L) (p : Pk) (hgood : goodB p = true) (hpl : placeF ts p.tag = none) :
    Calls Try.prog 59 #[.pointer (some ⟨r, 0, none⟩), .agg (pkC p)] w fun e w' => e = .returned (.tuple #[.agg (pkC pk0), .int .i64 1, .int .i64 0]) ∧ Below w.heap.size w w' := by
  have HG := fun W => hide (rgood_any p W)
  rw [hgood] at HG
  have HT := fun W (hW : Below w.heap.size w W) => hide (tenant_any (h.new hW) p.tag)
  rw [hpl] at HT
  obtain ⟨c0, c1, cz, hr⟩ := h.cells
  clear hgood h hpl c0 c1 cz
  obtain ⟨tag, proto, out, sa, sp, da, dp, syn, fin, rst, err, qsa, qsp, qda, qdp⟩ := p
  unfold pkC at HG
  unfold placeV at HT
  unfold pkC
  dsimp only at HG HT
  dsimp only
  go_enter Try.func59, Try.ntmps59
  go_wp2_with fail
  refine (unhide (HG _)).mono ?_
  rintro e w1 ⟨rfl, hb1⟩
  have q1 : w1.heap[w.heap.size]? = some (.cells (pkC ⟨tag, proto, out, sa, sp, da, dp, syn, fin, rst, err, qsa, qsp, qda, qdp⟩) 38 (0, 0)) := (hb1.block _ (by simp; omega)).trans (by first | exact blkA (blkA (blkN _ _ _ rfl)) | simp [World.alloc, World.setCell, pkC])
  have q2 : w1.heap[w.heap.size + 1]? = some (.cells (pkC pk0) 38 (0, 0)) := (hb1.block _ (by simp)).trans (by first | exact blkA (blkN _ _ _ (by simp)) | simp [World.alloc, World.setCell, pkC, pk0])
  have q3 : w1.heap[w.heap.size + 1 + 1]? = some (.cells (pkC pk0) 38 (0, 0)) := (hb1.block _ (by simp)).trans (by first | exact blkN _ _ _ (by simp) | simp [World.alloc, World.setCell, pkC, pk0])
  have HB1 : Hid (Below w.heap.size w w1) := Below.trans ((((Below.refl _ _).alloc (Nat.le_refl _) _).alloc (by simp) _).alloc (by simp; omega) _) (hb1.mono (by simp; omega))
  have hl3 : w.heap.size + 1 + 1 < w1.heap.size := (Array.getElem?_eq_some_iff.1 q3).1
  have hl1 : w.heap.size < w1.heap.size := by omega
  have hl2 : w.heap.size + 1 < w1.heap.size := by omega
  obtain ⟨p0, p1, p2, p3, p4, p5, p6, p7, p8, p9, p10, p11, p12, p13, p14, pz⟩ := pk_cells q1
  dsimp only at p0 p1 p2 p3 p4 p5 p6 p7 p8 p9 p10 p11 p12 p13 p14
  obtain ⟨b0, b1, b2, b3, b4, b5, b6, b7, b8, b9, b10, b11, b12, b13, b14, bz⟩ := pk_cells q2
  dsimp only [pk0] at b0 b1 b2 b3 b4 b5 b6 b7 b8 b9 b10 b11 b12 b13 b14
  obtain ⟨n0, n1, n2, n3, n4, n5, n6, n7, n8, n9, n10, n11, n12, n13, n14, nz⟩ := pk_cells q3
  dsimp only [pk0] at n0 n1 n2 n3 n4 n5 n6 n7 n8 n9 n10 n11 n12 n13 n14
  clear q1 q2 q3 hb1
  clear HG
  go_wp2_with fail
  refine (unhide (HT _ (unhide HB1))).mono ?_
  rintro e w2 ⟨rfl, hw⟩
  symm at hw
  subst hw
  clear HT
  go_wp2
  refine bodyPost_ret (v := .tuple #[.agg #[.int .i64 0, .int .i64 0, .bool false, .int .i64 0, .int .i64 0, .int .i64 0, .int .i64 0, .bool false, .bool false, .bool false, .bool false, .int .i64 0, .int .i64 0, .int .i64 0, .int .i64 0], .int .i64 1, .int .i64 0]) (by simp [results, Try.results59, go_sem, b0, b1, b2, b3, b4, b5, b6, b7, b8, b9, b10, b11, b12, b13, b14]) rfl ?_
  refine ⟨rfl, ?_⟩
  repeat (refine Below.setCell ?_ (by simp) _)
  exact unhide HB1

/-- what a call of Pass leaves, over the whole box -/
def PEnd (w : World) (S : Nat → Prop) (r : Nat) (tv : Value) (ts : List Ten) (L : List RCl) (X : List (Int × Tn) × Pk × Int × Int) (e : Ending) (w' : World) : Prop :=
  e = .returned (.tuple #[.agg (pkC X.2.1), .int .i64 X.2.2.1, .int .i64 X.2.2.2]) ∧ ∃ L' lv', RefR w' (grow S w w') r tv lv' ts L' ∧ Fr S w w' ∧ absB ts L' = X.1 ∧ ∀ j, ts.length ≤ j → absM L' j = absM L j

theorem PFin.whole {t : Nat} (ht : t < ts.length) (hd : ts.Pairwise fun x y => x.tag ≠ y.tag) {p : Pk} (hg : goodB p = true) (hpl : placeF ts p.tag = some t) {ms : List Mp} {q : Pk} {v : Int} (hX : ((passF (absT ts[t] t L) p).1.maps = ms) ∧ (passF (absT ts[t] t L) p).2.1 = q ∧ (passF (absT ts[t] t L) p).2.2 = v) {e : Ending} {w' : World} (h : PFin w S r tv ts L t ms q v e w') : PEnd w S r tv ts L (passB (absB ts L) p) e w' := by
  obtain ⟨L', lv', rfl, h1, h2, h3, h4⟩ := h
  obtain ⟨_, k1, k2⟩ := place_some (L := L) hpl
  obtain ⟨x1, x2, x3⟩ := hX
  have hB : passB (absB ts L) p = (putT (absB ts L) p.tag (passF (absT ts[t] t L) p).1, q, v, 0) := by
    unfold passB
    rw [if_pos hg, k2]
    dsimp only
    rw [x2, x3]
  unfold PEnd
  rw [hB]
  refine ⟨rfl, L', lv', h1, h2, ?_, fun j hj => h4 j (by omega)⟩
  dsimp only
  rw [← k1]
  exact (put_abs ht hd (passF_kept _ _) (by rw [h3, x1]) h4).symm

theorem rpass_any (h : RefR w S r tv lv ts L) (p : Pk) (hts : ∀ x ∈ ts, okT x = true) (hd : ts.Pairwise fun x y => x.tag ≠ y.tag) (hA : ∀ i (hi : i < ts.length), GoodT (absT ts[i] i L)) (hX : ∀ x ∈ L, okX x.m) (hlen : L.length < 2000) :
    Calls Try.prog 59 #[.pointer (some ⟨r, 0, none⟩), .agg (pkC p)] w fun e w' => PEnd w S r tv ts L (passB (absB ts L) p) e w' := by
  cases hg : goodB p with
  | false =>
    have hB : passB (absB ts L) p = (absB ts L, pk0, 0, 4) := by
      unfold passB
      rw [if_neg (by rw [hg]; simp)]
    rw [hB]
    refine (rpass_bad h p hg).mono ?_
    rintro e w' ⟨rfl, hb⟩
    exact ⟨rfl, L, lv, h.grown hb, Fr.of_below hb, rfl, fun _ _ => rfl⟩
  | true =>
    cases hpl : placeF ts p.tag with
    | none =>
      have hB : passB (absB ts L) p = (absB ts L, pk0, 1, 0) := by
        unfold passB
        rw [if_pos hg, place_none hpl]
      rw [hB]
      refine (rpass_none h p hg hpl).mono ?_
      rintro e w' ⟨rfl, hb⟩
      exact ⟨rfl, L, lv, h.grown hb, Fr.of_below hb, rfl, fun _ _ => rfl⟩
    | some t =>
      obtain ⟨ht, k1, k2⟩ := place_some (L := L) hpl
      have hpr : 1 ≤ p.proto ∧ p.proto ≤ 3 := by
        unfold goodB at hg
        simp only [Bool.and_eq_true, decide_eq_true_eq] at hg
        exact hg.1.1.1.1
      have hz := passF_zero (absT ts[t] t L) p
      obtain ⟨tag, proto, out, sa, sp, da, dp, syn, fin, rst, err, qsa, qsp, qda, qdp⟩ := p
      cases err with
      | true =>
        have hp : passF (absT ts[t] t L) ⟨tag, proto, out, sa, sp, da, dp, syn, fin, rst, true, qsa, qsp, qda, qdp⟩ = (absT ts[t] t L, if out then errOutF (absT ts[t] t L) ⟨tag, proto, out, sa, sp, da, dp, syn, fin, rst, true, qsa, qsp, qda, qdp⟩ else errInF (absT ts[t] t L) ⟨tag, proto, out, sa, sp, da, dp, syn, fin, rst, true, qsa, qsp, qda, qdp⟩) := by
          unfold passF
          cases out <;> rfl
        rw [hp] at hz
        refine (rpass_96 h tag proto sa sp da dp syn fin rst qsa qsp qda qdp out hg hpl _ _ _ (fun W hW => rerr_any hW ht ⟨tag, proto, out, sa, sp, da, dp, syn, fin, rst, true, qsa, qsp, qda, qdp⟩) hz).mono ?_
        intro e w' hP
        exact hP.whole ht hd hg hpl (by rw [hp]; exact ⟨rfl, rfl, rfl⟩)
      | false =>
        cases out with
        | true =>
          have hp : passF (absT ts[t] t L) ⟨tag, proto, true, sa, sp, da, dp, syn, fin, rst, false, qsa, qsp, qda, qdp⟩ = outF (absT ts[t] t L) ⟨tag, proto, true, sa, sp, da, dp, syn, fin, rst, false, qsa, qsp, qda, qdp⟩ := rfl
          rw [hp] at hz
          refine (rpass_97 h tag proto sa sp da dp syn fin rst qsa qsp qda qdp hg hpl _ _ _ (fun W hW => rout_any hW ht ⟨tag, proto, true, sa, sp, da, dp, syn, fin, rst, false, qsa, qsp, qda, qdp⟩ (hts _ (List.getElem_mem _)) (hA t ht) hX hlen hpr) hz).mono ?_
          intro e w' hP
          exact hP.whole ht hd hg hpl (by rw [hp]; exact ⟨rfl, rfl, rfl⟩)
        | false =>
          have hp : passF (absT ts[t] t L) ⟨tag, proto, false, sa, sp, da, dp, syn, fin, rst, false, qsa, qsp, qda, qdp⟩ = inF (absT ts[t] t L) ⟨tag, proto, false, sa, sp, da, dp, syn, fin, rst, false, qsa, qsp, qda, qdp⟩ := rfl
          rw [hp] at hz
          refine (rpass_98 h tag proto sa sp da dp syn fin rst qsa qsp qda qdp hg hpl _ _ _ (fun W hW => rin_any hW ht ⟨tag, proto, false, sa, sp, da, dp, syn, fin, rst, false, qsa, qsp, qda, qdp⟩ (hA t ht).apart hX) hz).mono ?_
          intro e w' hP
          exact hP.whole ht hd hg hpl (by rw [hp]; exact ⟨rfl, rfl, rfl⟩)

end

end Go.Proofs.Ytgpplekabohneaa
