/- 'step' of the statement, a kind. -/
import Derived.Test.YtgpplekabohneaaXm
import Derived.Deep.RegionHeld3
import Derived.Deep.CutRange
import Derived.Deep.CutBlock
namespace Go.Proofs.Ytgpplekabohneaa
open Go.RowKit

attribute [local go_sem ↓] Go.wp_at_zero Go.wp_at_succ

theorem below_call {w3 w5 : World} {X : Obj} (hb5 : Below (w3.alloc X).drew.heap.size (w3.alloc X).drew w5) : Below w3.heap.size w3 w5 :=
  (((Below.refl _ _).alloc (Nat.le_refl _) X).drew).trans (hb5.mono (by show w3.heap.size ≤ (w3.alloc X).heap.size; simp))

set_option maxRecDepth 100000 in
set_option maxHeartbeats 3000000 in
theorem wstep_5 {w : World} {B : Nat} {col : Nat → Nat} {wb : Nat} {bs : List BX} {ps : List Pk} {nl yl : List (Value × Nat)} {c : Nat} (h : WI w B col wb bs ps nl yl c) (hc : c ≤ 800000000) (on a b : Int) (hon : -9223372036854775808 ≤ on ∧ on ≤ 9223372036854775807) (tp pp : Option Addr) (tn tc pn pc : Nat) (hb0 : bs.length ≠ 0) (hbb : -9223372036854775808 ≤ b ∧ b ≤ 9223372036854775807) :
    Calls Try.prog 24 #[.pointer (some ⟨wb, 0, none⟩), .agg #[.int .i64 5, .int .i64 on, .int .i64 a, .int .i64 b, .slice tp tn tc, .slice pp pn pc]] w fun e w' => e = .returned (.bool true) ∧ StepOut w B col wb c w' := by
  obtain ⟨rv, ln, xs, hW, hX⟩ := h.rows
  have hr2 := WI.row2 hW hX
  obtain ⟨ba, bc, hrv, bk1, bk2, bk3⟩ := rowN_cells hr2.1
  obtain ⟨gb, rfl, hgb, hbcell⟩ := bk3 (by omega)
  obtain ⟨c0, -, -, -, -, -, -, -, -, -⟩ := hW.cells
  rw [hrv] at c0
  have hb8 := h.nb
  have HBB := hide hbb
  clear hbb
  have HH := hide h
  have HC := hide hc
  have HON := hide hon
  have HBC := hide hbcell
  have hb0' : ((bs.length : Int) == 0) = false := by rw [beq_eq_false_iff_ne]; omega
  have ca : ∀ X, (w.alloc X).cell? ⟨wb, 0, none⟩ = some (.slice (some ⟨gb, 0, none⟩) bs.length bc) := fun X => cellA c0
  unfold maxLen at bk2
  clear hW hX hr2 hrv bk3 hbcell hc h
  go_enter Try.func24, Try.ntmps24
  go_upto_region 5 with fail
  have ob : (w.alloc (.cells #[.int .i64 5, .int .i64 on, .int .i64 a, .int .i64 b, .slice tp tn tc, .slice pp pn pc] 76)).heap[w.heap.size]? = some (.cells #[.int .i64 5, .int .i64 on, .int .i64 a, .int .i64 b, .slice tp tn tc, .slice pp pn pc] 76 (0, 0)) := blkN _ _ _ rfl
  have a0 := ca (.cells #[.int .i64 5, .int .i64 on, .int .i64 a, .int .i64 b, .slice tp tn tc, .slice pp pn pc] 76)
  have hbw1 : Below w.heap.size w (w.alloc (.cells #[.int .i64 5, .int .i64 on, .int .i64 a, .int .i64 b, .slice tp tn tc, .slice pp pn pc] 76)) := (Below.refl _ _).alloc (Nat.le_refl _) _
  have hbc2 : ∀ (j : Nat) (u : Value), (boxC bs)[j]? = some u → (w.alloc (.cells #[.int .i64 5, .int .i64 on, .int .i64 a, .int .i64 b, .slice tp tn tc, .slice pp pn pc] 76)).cell? ⟨gb, j, none⟩ = some u := fun j u hu => cellA (unhide HBC j u hu)
  generalize w.alloc (.cells #[.int .i64 5, .int .i64 on, .int .i64 a, .int .i64 b, .slice tp tn tc, .slice pp pn pc] 76) = w1 at *
  have HBW1 := hide hbw1
  have HBC2 := hide hbc2
  have HOB := hide ob
  have o1 : w1.cell? ⟨w.heap.size, 1, none⟩ = some (.int .i64 on) := by simp [World.cell?, ob]
  obtain ⟨N, hN⟩ : ∃ N, bs.length = N := ⟨_, rfl⟩
  have HN := hide hN
  rw [hN] at a0 hb0' hb8 bk1
  clear ca c0 HBC hbw1 hbc2 ob hN
  rw [unhide HN]
  go_cut [5] from 23 to 36 (fun z wx => z = .pointer (some ⟨w1.heap.size, 0, none⟩) ∧ Below w1.heap.size w1 wx ∧ ∃ (j : Nat) (hj : j < bs.length), wx.heap[w1.heap.size]? = some (.cells #[.pointer (some ⟨bs[j].b, 0, none⟩), .pointer (some ⟨bs[j].r, 0, none⟩)] 94 (0, 0)))
  case first =>
    have hPK := hide (fun W => wpick_eq on N W (unhide HON).1 (unhide HON).2 (by have := unhide HN; omega) (by omega))
    have hjl : B0.pk on N < N := B0.pk_lt on N (by have := unhide HN; omega)
    have hjb : B0.pk on N < bs.length := by have := unhide HN; omega
    have hp0 := unhide HBC2 _ _ (boxC_at bs _ hjb).1
    have hp1 := unhide HBC2 _ _ (boxC_at bs _ hjb).2
    obtain ⟨jj, hjj⟩ : ∃ jj, B0.pk on N = jj := ⟨_, rfl⟩
    have HJ : Hid (∃ (hj : jj < bs.length), bs[B0.pk on N].b = bs[jj].b ∧ bs[B0.pk on N].r = bs[jj].r) := by
      subst hjj
      exact ⟨hjb, rfl, rfl⟩
    obtain ⟨pb, hpb⟩ : ∃ z, bs[B0.pk on N].b = z := ⟨_, rfl⟩
    obtain ⟨pr, hpr⟩ : ∃ z, bs[B0.pk on N].r = z := ⟨_, rfl⟩
    rw [hpb, hpr] at HJ
    rw [hpb, hjj] at hp0
    rw [hpr, hjj] at hp1
    rw [hjj] at hPK hjl
    have hj2 : (jj : Int) < (N : Int) := by omega
    have hj0 : (0 : Int) ≤ (jj : Int) := by omega
    have n1 := World.new_ne w1 _ a0
    have n2 := World.new_ne w1 _ o1
    have n3 := World.new_ne w1 _ hp0
    have n4 := World.new_ne w1 _ hp1
    clear hpb hpr hjj hjb HBC2
    go_region_held3 (fun w' => w'.cell? ⟨wb, 0, none⟩ = some (.slice (some ⟨gb, 0, none⟩) N bc) ∧ w'.cell? ⟨w.heap.size, 1, none⟩ = some (.int .i64 on) ∧ w'.cell? ⟨gb, jj * 2, none⟩ = some (.pointer (some ⟨pb, 0, none⟩)) ∧ w'.cell? ⟨gb, jj * 2 + 1, none⟩ = some (.pointer (some ⟨pr, 0, none⟩))) (go_keep)
      ((go_at_call 34; refine (unhide hPK _).mono ?_; rintro e w2 ⟨rfl, rfl⟩))
    all_goals
      go_wp2_with fail
      go_meet
      obtain ⟨hj, e1, e2⟩ := unhide HJ
      refine ⟨rfl, ((Below.refl _ _).alloc (Nat.le_refl _) _).drew, jj, hj, ?_⟩
      rw [← e1, ← e2]
      exact blkN w1 _ _ rfl
  case rest =>
  obtain ⟨rfl, hb3, i, hi, hxb⟩ := hcut
  have hWI := (unhide HH).below ((unhide HBW1).trans (hb3.mono (unhide HBW1).size))
  have HWI := hide hWI
  have HE0 : Hid (Ext w wc col col) := Ext.below ((unhide HBW1).trans (hb3.mono (unhide HBW1).size))
  have hob : wc.heap[w.heap.size]? = some (.cells #[.int .i64 5, .int .i64 on, .int .i64 a, .int .i64 b, .slice tp tn tc, .slice pp pn pc] 76 (0, 0)) := (hb3.block _ (Array.getElem?_eq_some_iff.1 (unhide HOB)).1).trans (unhide HOB)
  have hz0 : ∀ k, w.heap.size ≤ k → col k = 0 := fun k hk => Classical.byContradiction (fun hn => by have := ((unhide HH).cb k hn).2; omega)
  have HOB2 := hide hob
  have HXB := hide hxb
  have HZ0 := hide hz0
  have hs1 := (unhide HBW1).size
  have x0 : wc.cell? ⟨w1.heap.size, 0, none⟩ = some (.pointer (some ⟨bs[i].b, 0, none⟩)) := by simp [World.cell?, hxb]
  have x1 : wc.cell? ⟨w1.heap.size, 1, none⟩ = some (.pointer (some ⟨bs[i].r, 0, none⟩)) := by simp [World.cell?, hxb]
  have e0 : wc.cell? ⟨w.heap.size, 0, none⟩ = some (.int .i64 5) := by simp [World.cell?, hob]
  have e2 : wc.cell? ⟨w.heap.size, 2, none⟩ = some (.int .i64 a) := by simp [World.cell?, hob]
  have e3 : wc.cell? ⟨w.heap.size, 3, none⟩ = some (.int .i64 b) := by simp [World.cell?, hob]
  have e5 : wc.cell? ⟨w.heap.size, 5, none⟩ = some (.slice pp pn pc) := by simp [World.cell?, hob]
  obtain ⟨w3, hw3⟩ : ∃ w3, w3 = wc := ⟨_, rfl⟩
  subst hw3
  clear hb3 hWI hob hxb hz0 a0 o1 HBC2 HOB hb0' hb8 bk1 bk2
  obtain ⟨rv, ln, xs, hW, hX⟩ := (unhide HWI).rows
  have hr3 := WI.row3 hW hX
  obtain ⟨pa, pcap, hrv, k1, k2, k3⟩ := rowN_cells hr3.1
  obtain ⟨-, c1, -, -, -, -, -, -, -, -⟩ := hW.cells
  rw [hrv] at c1
  have hnp := (unhide HWI).np
  obtain ⟨M, hM⟩ : ∃ M, ps.length = M := ⟨_, rfl⟩
  have HMM := hide hM
  rw [hM] at c1 k1 hnp
  have HK3 := hide k3
  unfold maxLen at k2
  clear hW hX hr3 hrv k3 hM e5
  by_cases hm0 : M = 0
  · subst hm0
    have HO : Hid (StepOut w B col wb c w3) := ⟨col, bs, ps, nl, yl, c, unhide HWI, by omega, unhide HE0⟩
    clear x0 x1 e2 e3
    go_wp2
    go_ret
    exact ⟨rfl, unhide HO⟩
  · have hm1 : decide ((0 : Int) < (M : Int)) = true := decide_eq_true (by omega)
    obtain ⟨gp, rfl, hgp, hcell⟩ := unhide HK3 (by have := unhide HMM; omega)
    obtain ⟨j, hj⟩ : ∃ j, B0.pk b M = j := ⟨_, rfl⟩
    have hjl : j < M := by rw [← hj]; exact B0.pk_lt b M (by omega)
    have hPK := hide (fun W => wpick_eq b M W (unhide HBB).1 (unhide HBB).2 (by omega) hnp)
    rw [hj] at hPK
    obtain ⟨t, ht⟩ : ∃ t, M - 1 - j = t := ⟨_, rfl⟩
    have htl : t < ps.length := by have := unhide HMM; omega
    have htz : (M : Int) - 1 - (j : Int) = (t : Int) := by omega
    have hat : ∀ o v, o < 15 → (pkC ps[t]).toList[o]? = some v → w3.cell? ⟨gp, t * 15 + o, none⟩ = some v := fun o v ho hv => hcell _ _ ((pksC_at ps t o htl ho).trans hv)
    generalize ps[t] = p at *
    obtain ⟨tag, proto, out, sa, sp, da, dp, syn, fin, rst, err, qsa, qsp, qda, qdp⟩ := p
    have p0 : w3.cell? ⟨gp, t * 15, none⟩ = some (.int .i64 tag) := hat 0 _ (by omega) rfl
    have p1 := hat 1 _ (by omega) rfl
    have p2 := hat 2 _ (by omega) rfl
    have p3 := hat 3 _ (by omega) rfl
    have p4 := hat 4 _ (by omega) rfl
    have p5 := hat 5 _ (by omega) rfl
    have p6 := hat 6 _ (by omega) rfl
    have p7 := hat 7 _ (by omega) rfl
    have p8 := hat 8 _ (by omega) rfl
    have p9 := hat 9 _ (by omega) rfl
    have p10 := hat 10 _ (by omega) rfl
    have p11 := hat 11 _ (by omega) rfl
    have p12 := hat 12 _ (by omega) rfl
    have p13 := hat 13 _ (by omega) rfl
    have p14 := hat 14 _ (by omega) rfl
    dsimp only at p0 p1 p2 p3 p4 p5 p6 p7 p8 p9 p10 p11 p12 p13 p14
    have hBK := hide (fun W => wback_any ⟨tag, proto, out, sa, sp, da, dp, syn, fin, rst, err, qsa, qsp, qda, qdp⟩ a W)
    unfold pkC at hBK
    dsimp only at hBK
    have htM : (t : Int) < (M : Int) := by omega
    have htM0 : (0 : Int) ≤ (t : Int) := by omega
    have hw1 : IntKind.i64.wrap ((M : Int) - 1) = (M : Int) - 1 := by rw [IntKind.wrap_i64]; omega
    have hw3 : IntKind.i64.wrap (t : Int) = (t : Int) := by rw [IntKind.wrap_i64]; omega
    have hw2 : IntKind.i64.wrap ((M : Int) - 1 - (j : Int)) = (t : Int) := by rw [htz]; exact hw3
    have HWS := hide (And.intro hw1 (And.intro hw2 hw3))
    clear hat hcell hj ht hw1 hw2 hw3
    go_upto_region 22 with fail
    rw [show decide (0 < M) = true from decide_eq_true (by omega)]
    go_cut [10] from 88 to 111 (fun z wx => ∃ m q, z = .pointer (some ⟨m, 0, none⟩) ∧ wx.heap[m]? = some (.cells (pkC q) 38 (0, 0)) ∧ w3.heap.size ≤ m ∧ Below w3.heap.size w3 wx)
    case first =>
      obtain ⟨hw1, hw2, hw3⟩ := unhide HWS
      have ne0 := World.new_ne w3 _ c1
      have ne1 := World.new_ne w3 _ e2
      have ne2 := World.new_ne w3 _ e3
      have ne3 := World.new_ne w3 _ p0
      go_region_held3 (fun w' => w'.cell? ⟨wb, 1, none⟩ = some (.slice (some ⟨gp, 0, none⟩) M pcap) ∧ w'.cell? ⟨w.heap.size, 2, none⟩ = some (.int .i64 a) ∧ w'.cell? ⟨w.heap.size, 3, none⟩ = some (.int .i64 b) ∧ w'.cell? ⟨gp, t * 15, none⟩ = some (.int .i64 tag) ∧ w'.cell? ⟨gp, t * 15 + 1, none⟩ = some (.int .i64 proto) ∧ w'.cell? ⟨gp, t * 15 + 2, none⟩ = some (.bool out) ∧ w'.cell? ⟨gp, t * 15 + 3, none⟩ = some (.int .i64 sa) ∧ w'.cell? ⟨gp, t * 15 + 4, none⟩ = some (.int .i64 sp) ∧ w'.cell? ⟨gp, t * 15 + 5, none⟩ = some (.int .i64 da) ∧ w'.cell? ⟨gp, t * 15 + 6, none⟩ = some (.int .i64 dp) ∧ w'.cell? ⟨gp, t * 15 + 7, none⟩ = some (.bool syn) ∧ w'.cell? ⟨gp, t * 15 + 8, none⟩ = some (.bool fin) ∧ w'.cell? ⟨gp, t * 15 + 9, none⟩ = some (.bool rst) ∧ w'.cell? ⟨gp, t * 15 + 10, none⟩ = some (.bool err) ∧ w'.cell? ⟨gp, t * 15 + 11, none⟩ = some (.int .i64 qsa) ∧ w'.cell? ⟨gp, t * 15 + 12, none⟩ = some (.int .i64 qsp) ∧ w'.cell? ⟨gp, t * 15 + 13, none⟩ = some (.int .i64 qda) ∧ w'.cell? ⟨gp, t * 15 + 14, none⟩ = some (.int .i64 qdp)) (go_keep)
        (first | (go_at_call 34; refine (unhide hPK _).mono ?_; rintro e w2 ⟨rfl, rfl⟩) | (go_at_call 38; refine (unhide hBK _).mono ?_; rintro e w5 ⟨⟨ztag, zproto, zout, zsa, zsp, zda, zdp, zsyn, zfin, zrst, zerr, zqsa, zqsp, zqda, zqdp⟩, rfl, hb5⟩; dsimp only [pkC]; have lt5 : (∀ (a : Addr) (v : Value), w3.cell? a = some v → w5.cell? a = some v) := (by intro a v ha; first | exact (hb5.cell (World.block_lt_of_cell? w3 a ha)).trans ha | exact (hb5.cell (World.block_lt_of_cell? _ a (cellA ha))).trans (cellA ha)); have t0 := lt5 _ _ c1; have t1 := lt5 _ _ e2; have t2 := lt5 _ _ e3; have s0 := lt5 _ _ p0; have s1 := lt5 _ _ p1; have s2 := lt5 _ _ p2; have s3 := lt5 _ _ p3; have s4 := lt5 _ _ p4; have s5 := lt5 _ _ p5; have s6 := lt5 _ _ p6; have s7 := lt5 _ _ p7; have s8 := lt5 _ _ p8; have s9 := lt5 _ _ p9; have s10 := lt5 _ _ p10; have s11 := lt5 _ _ p11; have s12 := lt5 _ _ p12; have s13 := lt5 _ _ p13; have s14 := lt5 _ _ p14; clear lt5; first | (have zb : w5.heap[w3.heap.size]? = some (.cells (pkC pk0) 38 (0, 0)) := (hb5.block _ (by simp)).trans (blkN w3 _ _ rfl); have ZB := hide zb; obtain ⟨z0, z1, z2, z3, z4, z5, z6, z7, z8, z9, z10, z11, z12, z13, z14, zz⟩ := pk_cells zb; dsimp only [pk0] at z0 z1 z2 z3 z4 z5 z6 z7 z8 z9 z10 z11 z12 z13 z14; clear zb) | skip; have HB5 := hide hb5; clear hb5))
      · clear hw1 hw2 hw3
        go_wp2_with fail
        go_meet
        refine ⟨w5.heap.size, ⟨ztag, zproto, zout, zsa, zsp, zda, zdp, zsyn, zfin, zrst, zerr, zqsa, zqsp, zqda, zqdp⟩, rfl, blkN w5 _ _ rfl, (unhide HB5).size, ?_⟩
        exact (((Below.refl _ _).drew).trans (unhide HB5)).alloc (unhide HB5).size _
      · clear hw1 hw2 hw3
        go_wp2_with fail
        go_meet
        refine ⟨w3.heap.size, ⟨ztag, zproto, zout, zsa, zsp, zda, zdp, zsyn, zfin, zrst, zerr, zqsa, zqsp, zqda, zqdp⟩, rfl, pk_put ⟨ztag, zproto, zout, zsa, zsp, zda, zdp, zsyn, zfin, zrst, zerr, zqsa, zqsp, zqda, zqdp⟩ (unhide ZB), Nat.le_refl _, ?_⟩
        repeat (refine Below.setCell ?_ (by simp) _)
        exact below_call hb5
      · clear hw1 hw2 hw3
        go_wp2_with fail
        go_meet
        refine ⟨w3.heap.size, ⟨ztag, zproto, zout, zsa, zsp, zda, zdp, zsyn, zfin, zrst, zerr, zqsa, zqsp, zqda, zqdp⟩, rfl, pk_put ⟨ztag, zproto, zout, zsa, zsp, zda, zdp, zsyn, zfin, zrst, zerr, zqsa, zqsp, zqda, zqdp⟩ (unhide ZB), Nat.le_refl _, ?_⟩
        repeat (refine Below.setCell ?_ (by simp) _)
        exact below_call hb5
    case rest =>
      obtain ⟨m, q, rfl, hq, hm, hb4⟩ := hcut
      have HC37 := hide (wpasses_any ((unhide HWI).below hb4) hi q)
      have HB4 := hide hb4
      have y0 := (hb4.cell (p := ⟨w1.heap.size, 0, none⟩) (World.block_lt_of_cell? _ _ x0)).trans x0
      have y1 := (hb4.cell (p := ⟨w1.heap.size, 1, none⟩) (World.block_lt_of_cell? _ _ x1)).trans x1
      obtain ⟨ztag, zproto, zout, zsa, zsp, zda, zdp, zsyn, zfin, zrst, zerr, zqsa, zqsp, zqda, zqdp⟩ := q
      clear p0 p1 p2 p3 p4 p5 p6 p7 p8 p9 p10 p11 p12 p13 p14
      obtain ⟨p0, p1, p2, p3, p4, p5, p6, p7, p8, p9, p10, p11, p12, p13, p14, -⟩ := pk_cells hq
      unfold pkC at HC37
      dsimp only at p0 p1 p2 p3 p4 p5 p6 p7 p8 p9 p10 p11 p12 p13 p14 HC37
      clear hb4 hq x0 x1 e0 e2 e3 c1 hPK hBK HWS
      go_wp2_with fail
      refine (unhide HC37).mono ?_
      rintro e w6 ⟨rfl, hO⟩
      have HO : Hid (StepOut w B col wb c w6) := by
        obtain ⟨col', bs', ps', k1, k2, k3⟩ := hO
        exact ⟨col', bs', ps', nl, yl, c, k1, by omega, (unhide HE0).trans ((Ext.below (unhide HB4)).trans k3)⟩
      clear hO HC37
      go_wp2
      go_ret
      exact ⟨rfl, unhide HO⟩


end Go.Proofs.Ytgpplekabohneaa
