/- 'step' of the statement, a kind. -/
import Derived.Test.YtgpplekabohneaaXm
import Derived.Deep.RegionHeld3
import Derived.Deep.CutRange
import Derived.Deep.CutBlock
namespace Go.Proofs.Ytgpplekabohneaa
open Go.RowKit

attribute [local go_sem ↓] Go.wp_at_zero Go.wp_at_succ

set_option maxRecDepth 100000 in
set_option maxHeartbeats 4000000 in
theorem wstep_4 {w : World} {B : Nat} {col : Nat → Nat} {wb : Nat} {bs : List BX} {ps : List Pk} {nl yl : List (Value × Nat)} {c : Nat} (h : WI w B col wb bs ps nl yl c) (hc : c ≤ 800000000) (on a b : Int) (hon : -9223372036854775808 ≤ on ∧ on ≤ 9223372036854775807) (tp pp : Option Addr) (tn tc pn pc : Nat) (hb0 : bs.length ≠ 0) (pks : List Pk) (hpk : PkArg w col (.slice pp pn pc) pks) :
    Calls Try.prog 24 #[.pointer (some ⟨wb, 0, none⟩), .agg #[.int .i64 4, .int .i64 on, .int .i64 a, .int .i64 b, .slice tp tn tc, .slice pp pn pc]] w fun e w' => e = .returned (.bool true) ∧ StepOut w B col wb c w' := by
  obtain ⟨rv, ln, xs, hW, hX⟩ := h.rows
  have hr2 := WI.row2 hW hX
  obtain ⟨ba, bc, hrv, bk1, bk2, bk3⟩ := rowN_cells hr2.1
  obtain ⟨gb, rfl, hgb, hbcell⟩ := bk3 (by omega)
  obtain ⟨c0, -, -, -, -, -, -, -, -, -⟩ := hW.cells
  rw [hrv] at c0
  have hb8 := h.nb
  have HPK := hide hpk
  clear hpk
  have HH := hide h
  have HC := hide hc
  have HON := hide hon
  have HBC := hide hbcell
  have hb0' : ((bs.length : Int) == 0) = false := by rw [beq_eq_false_iff_ne]; omega
  have ca : ∀ X, (w.alloc X).cell? ⟨wb, 0, none⟩ = some (.slice (some ⟨gb, 0, none⟩) bs.length bc) := fun X => cellA c0
  unfold maxLen at bk2
  clear hW hX hr2 hrv bk3 hbcell hc h
  go_enter Try.func24, Try.ntmps24
  go_upto_region 5 with fail
  have ob : (w.alloc (.cells #[.int .i64 4, .int .i64 on, .int .i64 a, .int .i64 b, .slice tp tn tc, .slice pp pn pc] 76)).heap[w.heap.size]? = some (.cells #[.int .i64 4, .int .i64 on, .int .i64 a, .int .i64 b, .slice tp tn tc, .slice pp pn pc] 76 (0, 0)) := blkN _ _ _ rfl
  have a0 := ca (.cells #[.int .i64 4, .int .i64 on, .int .i64 a, .int .i64 b, .slice tp tn tc, .slice pp pn pc] 76)
  have hbw1 : Below w.heap.size w (w.alloc (.cells #[.int .i64 4, .int .i64 on, .int .i64 a, .int .i64 b, .slice tp tn tc, .slice pp pn pc] 76)) := (Below.refl _ _).alloc (Nat.le_refl _) _
  have hbc2 : ∀ (j : Nat) (u : Value), (boxC bs)[j]? = some u → (w.alloc (.cells #[.int .i64 4, .int .i64 on, .int .i64 a, .int .i64 b, .slice tp tn tc, .slice pp pn pc] 76)).cell? ⟨gb, j, none⟩ = some u := fun j u hu => cellA (unhide HBC j u hu)
  generalize w.alloc (.cells #[.int .i64 4, .int .i64 on, .int .i64 a, .int .i64 b, .slice tp tn tc, .slice pp pn pc] 76) = w1 at *
  have HBW1 := hide hbw1
  have HBC2 := hide hbc2
  have HOB := hide ob
  have o1 : w1.cell? ⟨w.heap.size, 1, none⟩ = some (.int .i64 on) := by simp [World.cell?, ob]
  obtain ⟨N, hN⟩ : ∃ N, bs.length = N := ⟨_, rfl⟩
  have HN := hide hN
  rw [hN] at a0 hb0' hb8 bk1
  clear ca c0 HBC hbw1 hbc2 ob hN
  rw [unhide HN]
  go_cut [5] from 23 to 36 (fun z wx => z = .pointer (some ⟨w1.heap.size, 0, none⟩) ∧ Below w1.heap.size w1 wx ∧ ∃ (j : Nat) (hj : j < bs.length), wx.heap[w1.heap.size]? = some (.cells #[.pointer (some ⟨bs[j].b, 0, none⟩), .pointer (some ⟨bs[j].r, 0, none⟩)] 94 (0, 0)))
  case first =>
    have hPK := hide (fun W => wpick_eq on N W (unhide HON).1 (unhide HON).2 (by have := unhide HN; omega) (by omega))
    have hjl : B0.pk on N < N := B0.pk_lt on N (by have := unhide HN; omega)
    have hjb : B0.pk on N < bs.length := by have := unhide HN; omega
    have hp0 := unhide HBC2 _ _ (boxC_at bs _ hjb).1
    have hp1 := unhide HBC2 _ _ (boxC_at bs _ hjb).2
    obtain ⟨jj, hjj⟩ : ∃ jj, B0.pk on N = jj := ⟨_, rfl⟩
    have HJ : Hid (∃ (hj : jj < bs.length), bs[B0.pk on N].b = bs[jj].b ∧ bs[B0.pk on N].r = bs[jj].r) := by
      subst hjj
      exact ⟨hjb, rfl, rfl⟩
    obtain ⟨pb, hpb⟩ : ∃ z, bs[B0.pk on N].b = z := ⟨_, rfl⟩
    obtain ⟨pr, hpr⟩ : ∃ z, bs[B0.pk on N].r = z := ⟨_, rfl⟩
    rw [hpb, hpr] at HJ
    rw [hpb, hjj] at hp0
    rw [hpr, hjj] at hp1
    rw [hjj] at hPK hjl
    have hj2 : (jj : Int) < (N : Int) := by omega
    have hj0 : (0 : Int) ≤ (jj : Int) := by omega
    have n1 := World.new_ne w1 _ a0
    have n2 := World.new_ne w1 _ o1
    have n3 := World.new_ne w1 _ hp0
    have n4 := World.new_ne w1 _ hp1
    clear hpb hpr hjj hjb HBC2
    go_region_held3 (fun w' => w'.cell? ⟨wb, 0, none⟩ = some (.slice (some ⟨gb, 0, none⟩) N bc) ∧ w'.cell? ⟨w.heap.size, 1, none⟩ = some (.int .i64 on) ∧ w'.cell? ⟨gb, jj * 2, none⟩ = some (.pointer (some ⟨pb, 0, none⟩)) ∧ w'.cell? ⟨gb, jj * 2 + 1, none⟩ = some (.pointer (some ⟨pr, 0, none⟩))) (go_keep)
      ((go_at_call 34; refine (unhide hPK _).mono ?_; rintro e w2 ⟨rfl, rfl⟩))
    all_goals
      go_wp2_with fail
      go_meet
      obtain ⟨hj, e1, e2⟩ := unhide HJ
      refine ⟨rfl, ((Below.refl _ _).alloc (Nat.le_refl _) _).drew, jj, hj, ?_⟩
      rw [← e1, ← e2]
      exact blkN w1 _ _ rfl
  case rest =>
  obtain ⟨rfl, hb3, i, hi, hxb⟩ := hcut
  have hWI := (unhide HH).below ((unhide HBW1).trans (hb3.mono (unhide HBW1).size))
  have HWI := hide hWI
  have HE0 : Hid (Ext w wc col col) := Ext.below ((unhide HBW1).trans (hb3.mono (unhide HBW1).size))
  have hob : wc.heap[w.heap.size]? = some (.cells #[.int .i64 4, .int .i64 on, .int .i64 a, .int .i64 b, .slice tp tn tc, .slice pp pn pc] 76 (0, 0)) := (hb3.block _ (Array.getElem?_eq_some_iff.1 (unhide HOB)).1).trans (unhide HOB)
  have hz0 : ∀ k, w.heap.size ≤ k → col k = 0 := fun k hk => Classical.byContradiction (fun hn => by have := ((unhide HH).cb k hn).2; omega)
  have HOB2 := hide hob
  have HXB := hide hxb
  have HZ0 := hide hz0
  have hs1 := (unhide HBW1).size
  have x0 : wc.cell? ⟨w1.heap.size, 0, none⟩ = some (.pointer (some ⟨bs[i].b, 0, none⟩)) := by simp [World.cell?, hxb]
  have x1 : wc.cell? ⟨w1.heap.size, 1, none⟩ = some (.pointer (some ⟨bs[i].r, 0, none⟩)) := by simp [World.cell?, hxb]
  have e0 : wc.cell? ⟨w.heap.size, 0, none⟩ = some (.int .i64 4) := by simp [World.cell?, hob]
  have e2 : wc.cell? ⟨w.heap.size, 2, none⟩ = some (.int .i64 a) := by simp [World.cell?, hob]
  have e3 : wc.cell? ⟨w.heap.size, 3, none⟩ = some (.int .i64 b) := by simp [World.cell?, hob]
  have e5 : wc.cell? ⟨w.heap.size, 5, none⟩ = some (.slice pp pn pc) := by simp [World.cell?, hob]
  obtain ⟨w3, hw3⟩ : ∃ w3, w3 = wc := ⟨_, rfl⟩
  subst hw3
  clear hb3 hWI hob hxb hz0 a0 o1 HBC2 HOB hb0' hb8 bk1 bk2
  obtain ⟨pa, pcap, hpv, pk1, pk2, pk3⟩ := unhide HPK
  simp only [Value.slice.injEq] at hpv
  obtain ⟨rfl, hpn, rfl⟩ := hpv
  have HPN := hide hpn
  have HPK3 := hide pk3
  rw [← hpn] at pk1
  unfold maxLen at pk2
  have hl0 := (Array.getElem?_eq_some_iff.1 (unhide HOB2)).1
  have hl1 := (Array.getElem?_eq_some_iff.1 (unhide HXB)).1
  have HL := hide (And.intro hl0 hl1)
  clear hpn pk3 HPK e2 e3 x0 x1
  go_wp2_with fail
  go_loopg [8] pn (fun z i8 wr => ∃ j : Nat, j ≤ pn ∧ z = pn - j ∧ i8 = .int .i64 j ∧ ∃ col' bs' ps', WI wr B col' wb bs' ps' nl yl c ∧ SameB bs bs' ∧ Ext w3 wr col col')
  case atStart => exact ⟨0, Nat.zero_le _, by omega, rfl, col, bs, ps, unhide HWI, SameB.refl _, ⟨Fr.refl _ _, fun _ _ h => h⟩⟩
  case round =>
    obtain ⟨j, hj, hz, rfl, col', bs', ps', hI, hS, hE⟩ := hrel
    have HZ := hide hz
    have HI := hide (And.intro hI (And.intro hS hE))
    have hobr := hE.1.some (unhide HOB2) (fun hn => hn (unhide HZ0 _ (Nat.le_refl _)))
    have hxbr := hE.1.some (unhide HXB) (fun hn => hn (unhide HZ0 _ hs1))
    have x0 : wr.cell? ⟨w1.heap.size, 0, none⟩ = some (.pointer (some ⟨bs[i].b, 0, none⟩)) := by simp [World.cell?, hxbr]
    have x1 : wr.cell? ⟨w1.heap.size, 1, none⟩ = some (.pointer (some ⟨bs[i].r, 0, none⟩)) := by simp [World.cell?, hxbr]
    have e5 : wr.cell? ⟨w.heap.size, 5, none⟩ = some (.slice pp pn pc) := by simp [World.cell?, hobr]
    clear hz hI hS hE hobr hxbr
    by_cases hlt : j < pn
    · have hjl : j < pks.length := by have := unhide HPN; omega
      obtain ⟨pb, off, rfl, hpb, hpc, hcells⟩ := unhide HPK3 (by omega)
      have hblk : wr.heap[pb]? = w.heap[pb]? := ((unhide HE0).trans (unhide HI).2.2).1.block pb hpb (fun hn => hn hpc)
      have hat : ∀ o v, (pkC pks[j]).toList[o]? = some v → wr.cell? ⟨pb, off + j * 15 + o, none⟩ = some v := fun o v hv => (World.cell?_of_block (a := ⟨pb, off + j * 15 + o, none⟩) hblk).trans (hcells j hjl o v hv)
      have hbi := (unhide HI).2.1.2 i hi (by rw [(unhide HI).2.1.1]; exact hi)
      have HC37 := fun W (hW : Below wr.heap.size wr W) => hide (wpasses_any ((unhide HI).1.below hW) (i := i) (by rw [(unhide HI).2.1.1]; exact hi) pks[j])
      rw [hbi.1, hbi.2] at HC37
      generalize pks[j] = p at *
      obtain ⟨tag, proto, out, sa, sp, da, dp, syn, fin, rst, err, qsa, qsp, qda, qdp⟩ := p
      have p0 : wr.cell? ⟨pb, off + j * 15, none⟩ = some (.int .i64 tag) := hat 0 _ rfl
      have p1 := hat 1 _ rfl
      have p2 := hat 2 _ rfl
      have p3 := hat 3 _ rfl
      have p4 := hat 4 _ rfl
      have p5 := hat 5 _ rfl
      have p6 := hat 6 _ rfl
      have p7 := hat 7 _ rfl
      have p8 := hat 8 _ rfl
      have p9 := hat 9 _ rfl
      have p10 := hat 10 _ rfl
      have p11 := hat 11 _ rfl
      have p12 := hat 12 _ rfl
      have p13 := hat 13 _ rfl
      have p14 := hat 14 _ rfl
      unfold pkC at HC37
      dsimp only at p0 p1 p2 p3 p4 p5 p6 p7 p8 p9 p10 p11 p12 p13 p14 HC37
      clear hat hcells hblk hbi hpb hpc
      go_wp2_with fail
      go_region_with ((go_at_call 37; refine (unhide (HC37 _ (by first | exact (Below.refl _ _).drew | exact below_drewN (Below.refl _ _) _))).mono ?_; rintro e w5 ⟨rfl, hO5⟩))
      all_goals
        have HO5 := hide hO5
        clear hO5 HC37 p0 p1 p2 p3 p4 p5 p6 p7 p8 p9 p10 p11 p12 p13 p14 x0 x1 e5
        go_wp2_with fail
        go_roundg (pn - (j + 1))
        case measure => have := unhide HZ; omega
        case rel =>
          obtain ⟨col'', bs'', ps'', k1, k2, k3⟩ := unhide HO5
          exact ⟨j + 1, by omega, rfl, by go_num, col'', bs'', ps'', k1, (unhide HI).2.1.trans k2, (unhide HI).2.2.trans ((Ext.below ((Below.refl _ _).drew)).trans k3)⟩
    · have HO : Hid (StepOut w B col wb c wr) := by
        obtain ⟨hI, hS, hE⟩ := unhide HI
        exact ⟨col', bs', ps', nl, yl, c, hI, by omega, (unhide HE0).trans hE⟩
      go_wp2
      go_ret
      exact ⟨rfl, unhide HO⟩


end Go.Proofs.Ytgpplekabohneaa
