/- 'passes' of the statement. -/
import Derived.Test.YtgpplekabohneaaXh
namespace Go.Proofs.Ytgpplekabohneaa
open Go.RowKit

def pkZ : Value := .agg (pkC pk0)
theorem info38 : (Try.prog.info? 38).map (fun i => (i.zero, i.size, i.bytes)) = some (some pkZ, 15, 96) := by kernel_rfl

def SameB (bs bs' : List BX) : Prop := bs'.length = bs.length ∧ ∀ j (h : j < bs.length) (h' : j < bs'.length), bs'[j].b = bs[j].b ∧ bs'[j].r = bs[j].r

theorem SameB.refl (bs : List BX) : SameB bs bs := ⟨rfl, fun _ _ _ => ⟨rfl, rfl⟩⟩

theorem SameB.trans {a b c : List BX} (h : SameB a b) (k : SameB b c) : SameB a c := ⟨k.1.trans h.1, fun j h1 h2 => by
  have h3 : j < b.length := by rw [h.1]; exact h1
  have e1 := h.2 j h1 h3
  have e2 := k.2 j h3 h2
  exact ⟨e2.1.trans e1.1, e2.2.trans e1.2⟩⟩

theorem SameB.set (bs : List BX) (i : Nat) (hi : i < bs.length) (x : BX) (hb : x.b = bs[i].b) (hr : x.r = bs[i].r) : SameB bs (bs.set i x) := ⟨by simp, fun j h1 h2 => by
  rw [List.getElem_set]
  split
  · rename_i e
    subst e
    exact ⟨hb, hr⟩
  · exact ⟨rfl, rfl⟩⟩

section
variable {w W w5 w' : World} {B : Nat} {col : Nat → Nat} {wb i : Nat} {bs : List BX} {ps : List Pk} {nl yl : List (Value × Nat)} {c : Nat} {rv : Nat → Value} {ln : Nat → Nat} {xs : Nat → List Value}

theorem WI.row3 (hW : WR W B col wb rv ln xs c) (hX : WX ln xs bs ps nl yl) : W.ownsRow B 38 15 (rv 3) ps.length (pksC ps) ∧ (rv 3).ownBlock ≠ some wb := by
  have h1 := hW.rows 3 (by omega) (by omega)
  refine ⟨by have := h1.1; rw [hX.l3, hX.x3] at this; exact this, fun e => ?_⟩
  have h2 := h1.2 wb e
  rw [hW.cw] at h2
  omega

/-- a packet more that went on -/
theorem WI.app3 (h : WI W B col wb bs ps nl yl c) (hW : WR W B col wb rv ln xs c) (hX : WX ln xs bs ps nl yl) {g cap : Nat} {q : Pk} (hown : w5.ownsRow B 38 15 (.slice (some ⟨g, 0, none⟩) (ps.length + 1) cap) (ps.length + 1) (pksC ps ++ (pkC q).toList)) (hgr : ((rv 3).ownBlock = some g ∧ W.grownBy w5 (some g)) ∨ (g = W.heap.size ∧ W.grownBy w5 none)) (hnp : ps.length < 500) :
    WI (w5.setCell ⟨wb, 1, none⟩ (.slice (some ⟨g, 0, none⟩) (ps.length + 1) cap)) B (paint col g 3) wb bs (ps ++ [q]) nl yl c ∧ Ext W (w5.setCell ⟨wb, 1, none⟩ (.slice (some ⟨g, 0, none⟩) (ps.length + 1) cap)) col (paint col g 3) := by
  obtain ⟨hW', hT, hF⟩ := hW.app (i := 3) (by omega) (by omega) (g := g) (n := ps.length + 1) (cap := cap) (news := (pkC q).toList) (by rw [hX.x3]; exact hown) hgr (o := 1) rfl
  have hcb' : ∀ k, paint col g 3 k ≠ 0 → k < (w5.setCell ⟨wb, 1, none⟩ (.slice (some ⟨g, 0, none⟩) (ps.length + 1) cap)).heap.size := fun k hk => (hW'.cb k hk).2
  refine ⟨⟨⟨_, _, _, hW', ?_⟩, fun j hj => (h.boxes j hj).turn hT (Calm.of hF) (by omega) (by omega) hcb', fun p hp => ⟨(h.nums p hp).1.keep hT.size (hT.at (by decide) (by omega)), (h.nums p hp).2⟩, fun p hp => ⟨(h.marks p hp).1.keep hT.size (hT.at (by decide) (by omega)), (h.marks p hp).2⟩, h.nb, by rw [List.length_append]; show ps.length + 1 ≤ 500; omega, h.few⟩, hF, fun q hq h0 => ?_⟩
  · have hq : pksC (ps ++ [q]) = pksC ps ++ (pkC q).toList := by
      unfold pksC
      rw [List.flatMap_append]
      simp
    refine ⟨?_, ?_, ?_, ?_, ?_, ?_, ?_, ?_, ?_, ?_, ?_, ?_⟩
    · rw [up_ne _ _ (by omega)]; exact hX.l2
    · rw [up_ne _ _ (by omega)]; exact hX.x2
    · rw [up_same, List.length_append]; rfl
    · rw [up_same, hq, hX.x3]
    · rw [up_ne _ _ (by omega)]; exact hX.l4
    · rw [up_ne _ _ (by omega)]; exact hX.x4
    · rw [up_ne _ _ (by omega)]; exact hX.l5
    · rw [up_ne _ _ (by omega)]; exact hX.x5
    · rw [up_ne _ _ (by omega)]; exact hX.l6
    · rw [up_ne _ _ (by omega)]; exact hX.x6
    · rw [up_ne _ _ (by omega)]; exact hX.l7
    · rw [up_ne _ _ (by omega)]; exact hX.x7
  · unfold paint
    rw [if_neg, h0]
    intro e
    rcases hgr with ⟨h1, _⟩ | ⟨h1, _⟩
    · have := (hW.rows 3 (by omega) (by omega)).2 g h1
      rw [← e, h0] at this
      omega
    · omega

def PassesOut (w : World) (B : Nat) (col : Nat → Nat) (wb : Nat) (bs : List BX) (nl yl : List (Value × Nat)) (c : Nat) (w' : World) : Prop :=
  ∃ col' bs' ps', WI w' B col' wb bs' ps' nl yl c ∧ SameB bs bs' ∧ Ext w w' col col'

set_option maxHeartbeats 4000000 in
set_option maxRecDepth 100000 in
theorem wpasses_any (h : WI w B col wb bs ps nl yl c) (hi : i < bs.length) (p : Pk) :
    Calls Try.prog 37 #[.pointer (some ⟨wb, 0, none⟩), .agg #[.pointer (some ⟨bs[i].b, 0, none⟩), .pointer (some ⟨bs[i].r, 0, none⟩)], .agg (pkC p)] w fun e w' => e = .returned (.bool true) ∧ PassesOut w B col wb bs nl yl c w' := by
  have hbx := h.boxes i hi
  have HP1 := fun W (hW : Below w.heap.size w W) => hide (Pass_any (hbx.box.new hW) p)
  have HP2 := fun W (hW : Fr (fun k => col k = 9 + 2 * i) w W) => hide (rpass_any (hbx.ref.keep hW (fun k hk => by omega)) p hbx.tens hbx.tags hbx.good (hbx.each hbx.okx) hbx.len)
  have HOK := hide (And.intro (hbx.okx.pass p) (hbx.okp.pass p))
  have HFAR := hide hbx.far
  obtain ⟨bb, hbb⟩ : ∃ b, bs[i].b = b := ⟨_, rfl⟩
  obtain ⟨br, hbr⟩ : ∃ b, bs[i].r = b := ⟨_, rfl⟩
  obtain ⟨X, hX⟩ : ∃ X, passB (absB bs[i].ts bs[i].L) p = X := ⟨_, rfl⟩
  rw [hX, hbb] at HP1
  rw [hX, hbr] at HP2
  rw [hX] at HOK
  rw [hbb, hbr]
  have HBB := hide (And.intro hbb hbr)
  have HH := hide h
  have hcb := h.cb
  have HCB := hide hcb
  obtain ⟨BB, ⟨qtag, qproto, qout, qa, qp, qd, qe, qsyn, qfin, qrst, qerr, q1, q2, q3, q4⟩, v, er⟩ := X
  obtain ⟨tag, proto, out, sa, sp, da, dp, syn, fin, rst, err, qsa, qsp, qda, qdp⟩ := p
  dsimp only at HP1 HP2 HOK
  unfold pkC at HP1
  dsimp only at HP1
  unfold PEnd at HP2
  unfold pkC at HP2
  dsimp only at HP2
  unfold pkC
  dsimp only
  clear hX hbb hbr h hbx hcb
  go_enter Try.func37, Try.ntmps37
  go_wp2_with fail
  refine (unhide (HP1 _ (((Below.refl _ _).alloc (Nat.le_refl _) _).alloc (by simp) _))).mono ?_
  rintro e w1 ⟨rfl, hB1, hF1⟩
  have hz0 : ∀ k, w.heap.size ≤ k → col k = 0 := fun k hk => Classical.byContradiction (fun hn => by have := (unhide HCB k hn).2; omega)
  have b1 : w1.heap[w.heap.size]? = some (.cells #[.pointer (some ⟨bb, 0, none⟩), .pointer (some ⟨br, 0, none⟩)] 94 (0, 0)) := hF1.some (blkA (blkN _ _ _ rfl)) (by rw [hz0 _ (Nat.le_refl _)]; omega)
  have b2 : w1.heap[w.heap.size + 1]? = some (.cells (pkC ⟨tag, proto, out, sa, sp, da, dp, syn, fin, rst, err, qsa, qsp, qda, qdp⟩) 38 (0, 0)) := hF1.some (blkN _ _ _ (by simp)) (by rw [hz0 _ (by omega)]; omega)
  have hs1 : w.heap.size + 2 ≤ w1.heap.size := by have := hF1.size; simpa using this
  have hFw : Fr (fun k => col k = 9 + 2 * i) w w1 := (((Fr.refl _ _).alloc _).alloc _).trans hF1
  have HF1 := hide (And.intro hB1 (And.intro hF1 hFw))
  have HZ0 := hide hz0
  have x1 := cellOf b1 1
  have x1' : w1.cell? ⟨w.heap.size, 1, none⟩ = some (.pointer (some ⟨br, 0, none⟩)) := x1
  obtain ⟨p0, p1, p2, p3, p4, p5, p6, p7, p8, p9, p10, p11, p12, p13, p14, -⟩ := pk_cells b2
  dsimp only at p0 p1 p2 p3 p4 p5 p6 p7 p8 p9 p10 p11 p12 p13 p14
  have hl0 : w.heap.size < w1.heap.size := by omega
  have hl1 : w.heap.size + 1 < w1.heap.size := by omega
  clear hB1 hF1 hFw b1 b2 HP1 x1 hz0
  go_wp2_with fail
  refine (unhide (HP2 _ ((unhide HF1).2.2.alloc _))).mono ?_
  rintro e w2 ⟨rfl, L', lv', hR2, hF2, hE, hfar⟩
  have HWI : Hid (∃ col' bs', WI (w2.alloc (.cells #[.int .i64 qtag, .int .i64 qproto, .bool qout, .int .i64 qa, .int .i64 qp, .int .i64 qd, .int .i64 qe, .bool qsyn, .bool qfin, .bool qrst, .bool qerr, .int .i64 q1, .int .i64 q2, .int .i64 q3, .int .i64 q4] 38)) B col' wb bs' ps nl yl c ∧ SameB bs bs' ∧ Ext w (w2.alloc (.cells #[.int .i64 qtag, .int .i64 qproto, .bool qout, .int .i64 qa, .int .i64 qp, .int .i64 qd, .int .i64 qe, .bool qsyn, .bool qfin, .bool qrst, .bool qerr, .int .i64 q1, .int .i64 q2, .int .i64 q3, .int .i64 q4] 38)) col col' ∧ col' w1.heap.size = 0 ∧ col' w2.heap.size = 0) := by
    obtain ⟨hB1, hF1, -⟩ := unhide HF1
    have hbW : Below w.heap.size w ((w.alloc (.cells #[.pointer (some ⟨bb, 0, none⟩), .pointer (some ⟨br, 0, none⟩)] 94)).alloc (.cells #[.int .i64 tag, .int .i64 proto, .bool out, .int .i64 sa, .int .i64 sp, .int .i64 da, .int .i64 dp, .bool syn, .bool fin, .bool rst, .bool err, .int .i64 qsa, .int .i64 qsp, .int .i64 qda, .int .i64 qdp] 38)) := ((Below.refl _ _).alloc (Nat.le_refl _) _).alloc (by simp) _
    have hh := (unhide HH).both hi hbW hF1 (by rw [(unhide HBB).1]; exact hB1) (((Below.refl _ _).alloc (Nat.le_refl _) _)) hF2 (by rw [(unhide HBB).2]; exact hR2) hE (fun j hj => (hfar j hj).trans (unhide HFAR j hj)) (unhide HOK).1 (unhide HOK).2 (((Below.refl _ _).alloc (Nat.le_refl _) (.cells #[.int .i64 qtag, .int .i64 qproto, .bool qout, .int .i64 qa, .int .i64 qp, .int .i64 qd, .int .i64 qe, .bool qsyn, .bool qfin, .bool qrst, .bool qerr, .int .i64 q1, .int .i64 q2, .int .i64 q3, .int .i64 q4] 38)))
    have hs2 := hF2.size
    rw [World.size_alloc] at hs2
    refine ⟨_, _, hh.1, SameB.set bs i hi _ rfl rfl, hh.2, ?_, ?_⟩
    · unfold paintR
      rw [World.size_alloc, if_neg (by omega), if_neg (by omega)]
      exact unhide HZ0 _ (by omega)
    · unfold paintR
      rw [World.size_alloc, if_neg (by omega), if_neg (by omega)]
      exact unhide HZ0 _ (by omega)
  have ba : (w2.alloc (.cells #[.int .i64 qtag, .int .i64 qproto, .bool qout, .int .i64 qa, .int .i64 qp, .int .i64 qd, .int .i64 qe, .bool qsyn, .bool qfin, .bool qrst, .bool qerr, .int .i64 q1, .int .i64 q2, .int .i64 q3, .int .i64 q4] 38)).heap[w1.heap.size]? = some (.cells (pkC ⟨qtag, qproto, qout, qa, qp, qd, qe, qsyn, qfin, qrst, qerr, q1, q2, q3, q4⟩) 38 (0, 0)) := blkA (hF2.some (blkN w1 _ _ rfl) (by rw [unhide HZ0 _ (by omega)]; omega))
  have bb2 : (w2.alloc (.cells #[.int .i64 qtag, .int .i64 qproto, .bool qout, .int .i64 qa, .int .i64 qp, .int .i64 qd, .int .i64 qe, .bool qsyn, .bool qfin, .bool qrst, .bool qerr, .int .i64 q1, .int .i64 q2, .int .i64 q3, .int .i64 q4] 38)).heap[w2.heap.size]? = some (.cells (pkC ⟨qtag, qproto, qout, qa, qp, qd, qe, qsyn, qfin, qrst, qerr, q1, q2, q3, q4⟩) 38 (0, 0)) := blkN w2 _ _ rfl
  have HBLK := hide (And.intro ba bb2)
  clear hR2 hF2 hE hfar HF1 HP2 HH HOK HFAR HBB HCB HZ0 p0 p1 p2 p3 p4 p5 p6 p7 p8 p9 p10 p11 p12 p13 p14 x1' ba bb2
  go_upto_region 3 with fail
  generalize w2.alloc (.cells #[.int .i64 qtag, .int .i64 qproto, .bool qout, .int .i64 qa, .int .i64 qp, .int .i64 qd, .int .i64 qe, .bool qsyn, .bool qfin, .bool qrst, .bool qerr, .int .i64 q1, .int .i64 q2, .int .i64 q3, .int .i64 q4] 38) = w3 at *
  obtain ⟨col3, bs3, hWI, hSB, hEX, za, zb⟩ := unhide HWI
  obtain ⟨rv, ln, xs, hW, hX⟩ := hWI.rows
  have hr3 := WI.row3 hW hX
  obtain ⟨ra, rc, hrv3, k1, k2, -⟩ := rowN_cells hr3.1
  obtain ⟨-, c1, -, -, -, -, -, -, -, fz⟩ := hW.cells
  rw [hrv3] at c1
  have f1 := fz 1
  have hwb3 := hW.bound.1
  have hB3 : B ≤ w3.heap.size := by have := hW.bound; omega
  have hnp := hWI.np
  have HR3 := hide hr3.2
  rw [hrv3] at HR3
  have HM3 := hide (hr3.1.alloc (.cells #[.int .i64 qtag, .int .i64 qproto, .bool qout, .int .i64 qa, .int .i64 qp, .int .i64 qd, .int .i64 qe, .bool qsyn, .bool qfin, .bool qrst, .bool qerr, .int .i64 q1, .int .i64 q2, .int .i64 q3, .int .i64 q4] 38))
  rw [hrv3] at HM3
  have HRV := hide hrv3
  have HX3 := hide (And.intro hWI (And.intro hSB (And.intro hEX (And.intro za (And.intro zb (And.intro hW hX))))))
  obtain ⟨na, hna⟩ : ∃ n, w1.heap.size = n := ⟨_, rfl⟩
  obtain ⟨nb, hnb⟩ : ∃ n, w2.heap.size = n := ⟨_, rfl⟩
  rw [hna, hnb] at HBLK HX3
  rw [hna, hnb]
  obtain ⟨N, hN⟩ : ∃ N, ps.length = N := ⟨_, rfl⟩
  rw [hN] at c1 hnp k1 HR3 HM3 HRV
  have HN := hide hN
  obtain ⟨a0, a1, a2, a3, a4, a5, a6, a7, a8, a9, a10, a11, a12, a13, a14, -⟩ := pk_cells (unhide HBLK).1
  dsimp only at a0 a1 a2 a3 a4 a5 a6 a7 a8 a9 a10 a11 a12 a13 a14
  obtain ⟨n0, n1, n2, n3, n4, n5, n6, n7, n8, n9, n10, n11, n12, n13, n14, -⟩ := pk_cells (unhide HBLK).2
  dsimp only at n0 n1 n2 n3 n4 n5 n6 n7 n8 n9 n10 n11 n12 n13 n14
  have hla := (Array.getElem?_eq_some_iff.1 (unhide HBLK).1).1
  have hlb := (Array.getElem?_eq_some_iff.1 (unhide HBLK).2).1
  unfold maxLen at k2
  obtain ⟨i0, hi0, hz0, hz1, hz2⟩ := info_parts info38
  have HI := hide (And.intro hi0 (And.intro hz0 (And.intro hz1 hz2)))
  clear hWI hSB hEX za zb hW hX hr3 hrv3 fz HWI hna hnb hN hi0 hz0 hz1 hz2 hs1 hl0 hl1
  go_cut [42] from 29 to 41 (fun z wx => z = .bool ((v == 0) && (er == 0) && decide ((N : Int) < 500)) ∧ wx = w3)
  case first =>
    cases e1 : (v == 0)
    · go_wp2_with fail
      go_meet
      exact ⟨by rw [e1]; rfl, rfl⟩
    · cases e2 : (er == 0)
      · go_wp2_with fail
        go_meet
        exact ⟨by rw [e1, e2]; rfl, rfl⟩
      · go_wp2_with fail
        go_meet
        exact ⟨by rw [e1, e2]; rfl, rfl⟩
  case rest =>
  obtain ⟨rfl, hwc⟩ := hcut
  have hwc2 := hwc.symm
  subst hwc2
  clear hwc
  obtain ⟨bo, hbo⟩ : ∃ bo, ((v == 0) && (er == 0) && decide ((N : Int) < 500)) = bo := ⟨_, rfl⟩
  rw [hbo]
  have HBO := hide hbo
  clear hbo
  go_upto_if 42 with fail
  go_cut [] from 43 to 52 (fun wx => (wx.heap[na]? = some (.cells (pkC ⟨qtag, qproto, qout, qa, qp, qd, qe, qsyn, qfin, qrst, qerr, q1, q2, q3, q4⟩) 38 (0, 0)) ∧ wx.heap[nb]? = some (.cells (pkC ⟨qtag, qproto, qout, qa, qp, qd, qe, qsyn, qfin, qrst, qerr, q1, q2, q3, q4⟩) 38 (0, 0))) ∧ PassesOut w B col wb bs nl yl c wx)
  case first =>
    cases bo
    · go_wp2_with fail
      go_meet
      obtain ⟨hWI, hSB, hEX, -, -, -, -⟩ := unhide HX3
      exact ⟨unhide HBLK, col3, bs3, ps, hWI, hSB, hEX⟩
    · have hlt : N < 500 := by
        have h1 := unhide HBO
        simp only [Bool.and_eq_true, decide_eq_true_eq] at h1
        omega
      have ca1 : ∀ X, (w3.alloc X).cell? ⟨wb, 1, none⟩ = some (.slice ra N rc) := fun X => cellA c1
      go_wp2_with fail
      go_region_law
        ((refine step_append_x _ (by rfl) _ _ _ (by rfl) B 38 i0 _ 15 96 Try.underlying57 (unhide HI).1 (unhide HI).2.1 (unhide HI).2.2.1 (unhide HI).2.2.2 rfl (by omega) (.slice ra N rc) N _ (by rfl) (by exact unhide HM3) ⟨w3.heap.size, 0, none⟩ 1 1 [.int .i64 qtag, .int .i64 qproto, .bool qout, .int .i64 qa, .int .i64 qp, .int .i64 qd, .int .i64 qe, .bool qsyn, .bool qfin, .bool qrst, .bool qerr, .int .i64 q1, .int .i64 q2, .int .i64 q3, .int .i64 q4] (by rfl) (by rfl) (World.news_of_block (by exact blkN w3 _ _ rfl)) (by simp [Value.oneCell']) (by omega) (by unfold maxLen; omega) (by omega) (by simp; omega) ?_; intro g5 cap5 w5 hown5 hgr5;
          have q5 : w5.heap[wb]? = w3.heap[wb]? := (kept_g hgr5 (by simp; omega) (unhide HR3)).trans (Below.heap_alloc w3 _ wb hwb3);
          have c15 := (World.cell?_of_block (a := ⟨wb, 1, none⟩) q5).trans c1;
          have f15 := (World.frozen?_of_block (a := ⟨wb, 1, none⟩) q5).trans f1;
          have HO5 := hide hown5; have HG5 := hide hgr5; clear q5 hown5 hgr5))
      all_goals
        go_wp2_with fail
        go_meet
        obtain ⟨hWI, hSB, hEX, za, zb, hW, hX⟩ := unhide HX3
        have hbl : Below w3.heap.size w3 (w3.alloc (.cells #[.int .i64 qtag, .int .i64 qproto, .bool qout, .int .i64 qa, .int .i64 qp, .int .i64 qd, .int .i64 qe, .bool qsyn, .bool qfin, .bool qrst, .bool qerr, .int .i64 q1, .int .i64 q2, .int .i64 q3, .int .i64 q4] 38)).drew := ((Below.refl _ _).alloc (Nat.le_refl _) _).drew
        have hT : Turn (fun _ => False) B w3 (w3.alloc (.cells #[.int .i64 qtag, .int .i64 qproto, .bool qout, .int .i64 qa, .int .i64 qp, .int .i64 qd, .int .i64 qe, .bool qsyn, .bool qfin, .bool qrst, .bool qerr, .int .i64 q1, .int .i64 q2, .int .i64 q3, .int .i64 q4] 38)).drew col3 col3 := Turn.free (fun k hk => (hW.cb k hk).2) (Fr.of_below hbl)
        have hO5 := unhide HO5
        rw [← unhide HN] at hO5
        have hG5 : ((rv 3).ownBlock = some g5 ∧ (w3.alloc (.cells #[.int .i64 qtag, .int .i64 qproto, .bool qout, .int .i64 qa, .int .i64 qp, .int .i64 qd, .int .i64 qe, .bool qsyn, .bool qfin, .bool qrst, .bool qerr, .int .i64 q1, .int .i64 q2, .int .i64 q3, .int .i64 q4] 38)).drew.grownBy w5 (some g5)) ∨ (g5 = (w3.alloc (.cells #[.int .i64 qtag, .int .i64 qproto, .bool qout, .int .i64 qa, .int .i64 qp, .int .i64 qd, .int .i64 qe, .bool qsyn, .bool qfin, .bool qrst, .bool qerr, .int .i64 q1, .int .i64 q2, .int .i64 q3, .int .i64 q4] 38)).drew.heap.size ∧ (w3.alloc (.cells #[.int .i64 qtag, .int .i64 qproto, .bool qout, .int .i64 qa, .int .i64 qp, .int .i64 qd, .int .i64 qe, .bool qsyn, .bool qfin, .bool qrst, .bool qerr, .int .i64 q1, .int .i64 q2, .int .i64 q3, .int .i64 q4] 38)).drew.grownBy w5 none) := by
          rw [unhide HRV]
          exact unhide HG5
        have hh := (hWI.below hbl).app3 (hW.turn hT (fun _ _ _ f => f)) hX (q := ⟨qtag, qproto, qout, qa, qp, qd, qe, qsyn, qfin, qrst, qerr, q1, q2, q3, q4⟩) hO5 hG5 (by rw [unhide HN]; exact hlt)
        rw [unhide HN] at hh
        have hExt : Ext w3 _ col3 _ := (Ext.below hbl).trans hh.2
        refine ⟨⟨hExt.1.some (unhide HBLK).1 (fun hn => hn za), hExt.1.some (unhide HBLK).2 (fun hn => hn zb)⟩, _, bs3, ps ++ [⟨qtag, qproto, qout, qa, qp, qd, qe, qsyn, qfin, qrst, qerr, q1, q2, q3, q4⟩], hh.1, hSB, hEX.trans hExt⟩
  case rest =>
  rename World => w6
  have HOUT := hide hcut.2
  clear a0 a1 a2 a3 a4 a5 a6 a7 a8 a9 a10 a11 a12 a13 a14 n0 n1 n2 n3 n4 n5 n6 n7 n8 n9 n10 n11 n12 n13 n14 c1 f1 HM3 HR3 HRV HX3 HBLK HBO
  obtain ⟨a0, a1, a2, a3, a4, a5, a6, a7, a8, a9, a10, a11, a12, a13, a14, -⟩ := pk_cells hcut.1.1
  dsimp only at a0 a1 a2 a3 a4 a5 a6 a7 a8 a9 a10 a11 a12 a13 a14
  obtain ⟨n0, n1, n2, n3, n4, n5, n6, n7, n8, n9, n10, n11, n12, n13, n14, -⟩ := pk_cells hcut.1.2
  dsimp only at n0 n1 n2 n3 n4 n5 n6 n7 n8 n9 n10 n11 n12 n13 n14
  have e38 : ∀ w, (Op.equalIn (9996 + 4) 38 (.agg #[.int .i64 qtag, .int .i64 qproto, .bool qout, .int .i64 qa, .int .i64 qp, .int .i64 qd, .int .i64 qe, .bool qsyn, .bool qfin, .bool qrst, .bool qerr, .int .i64 q1, .int .i64 q2, .int .i64 q3, .int .i64 q4]) (.agg #[.int .i64 qtag, .int .i64 qproto, .bool qout, .int .i64 qa, .int .i64 qp, .int .i64 qd, .int .i64 qe, .bool qsyn, .bool qfin, .bool qrst, .bool qerr, .int .i64 q1, .int .i64 q2, .int .i64 q3, .int .i64 q4])).run Try.prog w = .ok true w := fun w => by
    have := eq38 9996 ⟨qtag, qproto, qout, qa, qp, qd, qe, qsyn, qfin, qrst, qerr, q1, q2, q3, q4⟩ ⟨qtag, qproto, qout, qa, qp, qd, qe, qsyn, qfin, qrst, qerr, q1, q2, q3, q4⟩ w
    unfold pkC at this
    dsimp only at this
    rw [this]
    simp [pkEq]
  clear hcut
  go_wp2
  go_ret
  exact ⟨by simp, unhide HOUT⟩

end

end Go.Proofs.Ytgpplekabohneaa
