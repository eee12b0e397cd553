/- 'still', 'tells' of 'Boxes'; lists of tenants. -/
import Derived.Test.YtgpplekabohneaaXj
namespace Go.Proofs.Ytgpplekabohneaa.B0
open Go.RowKit

attribute [local go_sem ↓] Go.wp_at_zero Go.wp_at_succ

section
variable {W : World} {B wb : Nat} {bs : List (Nat × Nat × List Ten)} {bv mv zv l : Value} {ys nw : List Value} {cs : List Nat} {c kz kl : Nat}

theorem TabInv.nils (h : TabInv W B wb bs bv mv zv l ys nw cs c kz kl) :
    W.cell? ⟨wb, 1, none⟩ = some (.slice none 0 0) ∧ W.cell? ⟨wb, 2, none⟩ = some (.slice none 0 0) ∧ W.cell? ⟨wb, 3, none⟩ = some (.slice none 0 0) ∧ W.cell? ⟨wb, 6, none⟩ = some (.slice none 0 0) ∧ W.cell? ⟨wb, 7, none⟩ = some (.slice none 0 0) ∧ W.cell? ⟨wb, 8, none⟩ = some (.slice none 0 0) ∧ W.cell? ⟨wb, 9, none⟩ = some (.slice none 0 0) := by
  refine ⟨?_, ?_, ?_, ?_, ?_, ?_, ?_⟩ <;> simp [World.cell?, h.blk, wcells, nilS]
end

/-- the elements of a row of one cell each -/
theorem owns_cell {w : World} {B e n : Nat} {v : Value} {xs : List Value} (h : w.ownsRow B e 1 v n xs) {i : Nat} (hi : i < n) :
    ∃ g cap, v = .slice (some ⟨g, 0, none⟩) n cap ∧ n ≤ cap ∧ cap ≤ maxLen ∧ ∀ (j : Nat) (u : Value), xs[j]? = some u → w.cell? ⟨g, j, none⟩ = some u := by
  rcases h.2 with ⟨_, h0⟩ | ⟨g, cap, cur, rfl, hbg, hg, hnc, hcm, hcs, htake⟩
  · omega
  · refine ⟨g, cap, rfl, hnc, hcm, fun j u hu => ?_⟩
    have := h.cells (g := g) rfl j u hu
    have hadd : (⟨g, 0, none⟩ : Addr).add j = ⟨g, j, none⟩ := by unfold Addr.add; split <;> simp_all
    rwa [hadd] at this

set_option maxRecDepth 100000 in
set_option maxHeartbeats 1000000 in
theorem still_any (w : World) (B wb : Nat) (bs : List (Nat × Nat × List Ten)) (bv mv zv : Value) (ys : List Value) (cs : List Nat) (c : Nat) (h : Inv w B wb bs bv mv zv ys cs c) (hc : c ≤ 1760000000000) :
    Calls Try.prog 25 #[.pointer (some ⟨wb, 0, none⟩)] w fun e w' => e = .returned (.bool true) ∧ Below w.heap.size w w' := by
  obtain ⟨h, hfew⟩ := h
  obtain ⟨-, n2, n3, n6, n7, n8, n9⟩ := h.nils
  obtain ⟨-, c4, c5, -, -⟩ := h.cells
  have HT := hide h
  clear h
  go_enter Try.func25, Try.ntmps25
  go_wp2
  go_loopg [3] 1 (fun z i wr => i = .int .i64 0 ∧ wr = w)
  case atStart => exact ⟨rfl, rfl⟩
  case round =>
    obtain ⟨rfl, hwr⟩ := hrel
    have hwr2 := hwr.symm
    subst hwr2
    clear hwr
    go_wp2
    go_loopg [5] ys.length (fun z i wr => ∃ j : Nat, j ≤ ys.length ∧ z = ys.length - j ∧ i = .int .i64 j ∧ Below w.heap.size w wr)
    case atStart => exact ⟨0, Nat.zero_le _, rfl, rfl, Below.refl _ _⟩
    case round =>
      obtain ⟨j, hj, hz, rfl, hbl⟩ := hrel
      have HZ := hide hz
      have HB := hide hbl
      have hT := (unhide HT).below hbl
      obtain ⟨-, m2, m3, m6, m7, m8, m9⟩ := hT.nils
      obtain ⟨-, d4, d5, -, -⟩ := hT.cells
      have hlt0 : w.heap.size ≤ wr.heap.size := hbl.size
      clear hz hbl c4 c5 n2 n3 n6 n7 n8 n9
      by_cases hlt : j < ys.length
      · obtain ⟨gm, mc, hmv, hmc, hmm, hmcell⟩ := owns_cell hT.mown (i := j) (by simpa using hlt)
        obtain ⟨gz, zc, hzv, hzc, hzm, hzcell⟩ := owns_cell hT.zown (i := j) (by simpa using hlt)
        have hcj : j < cs.length := by rw [hT.len]; exact hlt
        have k4 := hmcell j ys[j] (by simp [hlt])
        have k5 := hzcell j (.int .i64 cs[j]) (by simp [hcj])
        have hmk := hT.marks j hlt hcj
        have hsm := hT.small cs[j] (List.getElem_mem hcj)
        simp only [List.length_nil, Nat.add_zero] at hmv hzv hmc hzc
        rw [hmv] at d4
        rw [hzv] at d5
        unfold maxLen at hmm hzm
        have hjn : (j : Int) < (ys.length : Int) := by omega
        generalize hyj : ys[j] = y at *
        generalize cs[j] = q at *
        clear hmv hzv hmcell hzcell hyj hcj hT m2 m3 m6 m7 m8 m9
        obtain ⟨wo, hwo⟩ : ∃ wo, wo = wr := ⟨_, rfl⟩
        subst hwo
        rcases hmk with rfl | ⟨g, m, cap, rfl, hm4, hmcap, hcapm, -, hg, hcells⟩
        · unfold nilS at k4
          go_wp2
          go_loopg [6] 1 (fun z i wr => i = .int .i64 0 ∧ wr = wo)
          case atStart => exact ⟨rfl, rfl⟩
          case round =>
            obtain ⟨rfl, hwr⟩ := hrel
            have hwr2 := hwr.symm
            subst hwr2
            clear hwr
            go_wp2
            go_roundg (ys.length - (j + 1))
            case measure => have := unhide HZ; omega
            case rel => exact ⟨j + 1, by omega, rfl, by go_num, unhide HB⟩
        · unfold maxLen at hcapm
          have HC := hide hcells
          clear hcells
          have hwrap : IntKind.i64.wrap (-(q : Int)) = -(q : Int) := by rw [IntKind.wrap_i64]; omega
          go_wp2
          go_loopg [6] m (fun z i wr => ∃ k : Nat, k ≤ m ∧ z = m - k ∧ i = .int .i64 k ∧ Below wo.heap.size wo wr)
          case atStart => exact ⟨0, Nat.zero_le _, rfl, rfl, Below.refl _ _⟩
          case round =>
            obtain ⟨k, hk, hz, rfl, hb2⟩ := hrel
            have HY := hide hz
            have HB2 := hide hb2
            have hs2 := hb2.size
            have lt : ∀ (a : Addr) (v : Value), wo.cell? a = some v → wr.cell? a = some v := fun a v ha => (hb2.cell (World.block_lt_of_cell? wo a ha)).trans ha
            have p4 := lt _ _ d4
            have p5 := lt _ _ d5
            have q4 := lt _ _ k4
            have q5 := lt _ _ k5
            have LT := hide lt
            clear hz hb2 lt d4 d5 k4 k5
            by_cases hkm : k < m
            · have hkm' : (k : Int) < (m : Int) := by omega
              have y0 := unhide LT _ _ (unhide HC k 0 _ hkm rfl)
              have y1 := unhide LT _ _ (unhide HC k 1 _ hkm rfl)
              have y2 := unhide LT _ _ (unhide HC k 2 _ hkm rfl)
              have y3 := unhide LT _ _ (unhide HC k 3 _ hkm rfl)
              have y4 := unhide LT _ _ (unhide HC k 4 _ hkm rfl)
              have y5 := unhide LT _ _ (unhide HC k 5 _ hkm rfl)
              have y6 := unhide LT _ _ (unhide HC k 6 _ hkm rfl)
              rw [Nat.add_zero] at y0
              have p5a : ∀ X, (wr.alloc X).cell? ⟨wb, 5, none⟩ = some (Value.slice (some { block := gz, off := 0 }) ys.length zc) := fun X => cellA p5
              have q5a : ∀ X, (wr.alloc X).cell? ⟨gz, j, none⟩ = some (Value.int IntKind.i64 q) := fun X => cellA q5
              go_wp2
              go_quiet (fail)
              go_wp2
              go_roundg (m - (k + 1))
              case measure => have := unhide HY; omega
              case rel => exact ⟨k + 1, by omega, rfl, by go_num, ((unhide HB2).alloc hs2 _).trans ⟨rfl, rfl, rfl, by simp, fun _ _ => rfl⟩⟩
            · go_wp2
              go_roundg (ys.length - (j + 1))
              case measure => have := unhide HZ; omega
              case rel => exact ⟨j + 1, by omega, rfl, by go_num, (unhide HB).trans ((unhide HB2).mono hlt0)⟩
      · have hn : ∃ mp mc, mv = .slice mp ys.length mc := by
          have := hT.mown
          rcases this.2 with ⟨h1, h2⟩ | ⟨g, cap, cur, h1, _⟩
          · exact ⟨none, 0, by rw [h1]; simp at h2; rw [h2]; rfl⟩
          · exact ⟨some ⟨g, 0, none⟩, cap, by rw [h1]; simp⟩
        obtain ⟨mp, mc, hmv⟩ := hn
        rw [hmv] at d4
        clear hmv hT
        go_wp2
        obtain ⟨wo, hwo⟩ : ∃ wo, wo = wr := ⟨_, rfl⟩
        subst hwo
        go_loopg [8] 1 (fun z i wr => i = .int .i64 0 ∧ wr = wo)
        case atStart => exact ⟨rfl, rfl⟩
        case round =>
          obtain ⟨rfl, hwr⟩ := hrel
          have hwr2 := hwr.symm
          subst hwr2
          clear hwr
          go_wp2
          go_loopg [11] 1 (fun z i wr => i = .int .i64 0 ∧ wr = wo)
          case atStart => exact ⟨rfl, rfl⟩
          case round =>
            obtain ⟨rfl, hwr⟩ := hrel
            have hwr2 := hwr.symm
            subst hwr2
            clear hwr
            go_wp2
            go_ret
            exact ⟨rfl, unhide HB⟩

end Go.Proofs.Ytgpplekabohneaa.B0

namespace Go.Proofs.Ytgpplekabohneaa.B0
open Go.RowKit

attribute [local go_sem ↓] Go.wp_at_zero Go.wp_at_succ

theorem tableRef_any (q : Nat) (S : Nat → Prop) (ts : List Ten) (tag : Int) (w : World) (hR : RefBox w S q ts) :
    Calls Try.prog 56 #[.pointer (some ⟨q, 0, none⟩), .int .i64 tag] w fun e w' => e = .returned (.tuple #[.slice none 0 0, .int .i64 (tabErr ts tag)]) ∧ w' = w := by
  obtain ⟨_, h8, hok, v, hq, h | ⟨b, off, cap, rfl, _, hc, hm, hb, hT⟩⟩ := hR
  · obtain ⟨rfl, rfl⟩ := h
    exact tableRef_nil q tag w hq
  · exact tableRef_some q b off ts.length cap ts tag w hq rfl h8 hc hm hT hok

section
variable {W : World} {B wb : Nat} {bs : List (Nat × Nat × List Ten)} {bv mv zv : Value} {ys : List Value} {cs : List Nat} {c : Nat}

/-- an empty list in new blocks -/
theorem TabInv.withL (h : TabInv W B wb bs bv mv zv nilS ys [] cs c 0 0) {w' : World} {ap : Option Addr} {l0 : Nat} (hb : Below W.heap.size W w') (hO : w'.ownsRow W.heap.size 52 7 (.slice ap 0 l0) 0 []) : TabInv w' B wb bs bv mv zv (.slice ap 0 l0) ys [] cs c 0 0 := by
  have hwb := (Array.getElem?_eq_some_iff.1 h.blk).1
  have h' := h.below hb
  have own : ∀ k, (Value.slice ap 0 l0).ownBlock = some k → W.heap.size ≤ k := fun k hk => (hO.lt k hk).1
  have hfree : ∀ k, Free wb bv mv zv nilS k → k < W.heap.size → Free wb bv mv zv (.slice ap 0 l0) k := fun k hf hk => ⟨hf.1, hf.2.1, hf.2.2.1, hf.2.2.2.1, fun e => by have := own k e; omega⟩
  have hblk : ∀ k, Free wb bv mv zv nilS k → k < W.heap.size → w'.heap[k]? = W.heap[k]? := fun k _ hk => hb.block k hk
  refine ⟨h'.blk, h.base, h'.bown, h'.mown, h'.zown, ?_, h.len, h.nb, h.wbv, h.wmv, h.wzv, ?_, h.bm, h.bz, ?_, h.mz, ?_, ?_, ?_, ?_, ?_, by simp, h.small⟩
  · exact ⟨rfl, by
      rcases hO.2 with h0 | ⟨g, cap, cur, e, h1, h2⟩
      · exact .inl h0
      · exact .inr ⟨g, cap, cur, e, by have := h.base; omega, h2⟩⟩
  · intro e
    have := own wb e
    omega
  · intro k hk e
    have := own k e
    have := (h.bown.lt k hk).2
    omega
  · intro k hk e
    have := own k e
    have := (h.mown.lt k hk).2
    omega
  · intro k hk e
    have := own k e
    have := (h.zown.lt k hk).2
    omega
  · exact fun x hx => (h.pboxes x hx).keep hb.size hfree hblk
  · exact fun x hx => (h.rboxes x hx).keep hb.size hfree hblk
  · exact fun i h1 h2 => (h.marks i h1 h2).keep (Nat.le_refl _) hb.size hfree hblk
end

set_option maxRecDepth 100000 in
set_option maxHeartbeats 1000000 in
theorem tells_any (w : World) (B wb : Nat) (bs : List (Nat × Nat × List Ten)) (bv mv zv : Value) (ys : List Value) (cs : List Nat) (c : Nat) (h : Inv w B wb bs bv mv zv ys cs c) (hc : c ≤ 1760000000000) (p q : Nat) (ts : List Ten) (hx : (p, q, ts) ∈ bs) (tag : Int) :
    Calls Try.prog 35 #[.pointer (some ⟨wb, 0, none⟩), .agg #[.pointer (some ⟨p, 0, none⟩), .pointer (some ⟨q, 0, none⟩)], .int .i64 tag] w fun e w' =>
      e = .returned (.bool true) ∧ Below B w w' ∧ ∃ mv' zv' ys' cs', Inv w' B wb bs bv mv' zv' ys' cs' (c + 1) := by
  obtain ⟨hT, hfew⟩ := h
  have hBw : B ≤ w.heap.size := by have := hT.base; have := (Array.getElem?_eq_some_iff.1 hT.blk).1; omega
  have H := hide hT
  have HX := hide hx
  clear hT hx
  go_enter Try.func35, Try.ntmps35
  go_wp2_with fail
  have hb1 : Below w.heap.size w (w.alloc (.cells #[.pointer (some ⟨p, 0, none⟩), .pointer (some ⟨q, 0, none⟩)] 94)) := (Below.refl _ _).alloc (Nat.le_refl _) _
  have hT1 := (unhide H).below hb1
  have hB1 : Below B w (w.alloc (.cells #[.pointer (some ⟨p, 0, none⟩), .pointer (some ⟨q, 0, none⟩)] 94)) := hb1.mono hBw
  have c0 : (w.alloc (.cells #[.pointer (some ⟨p, 0, none⟩), .pointer (some ⟨q, 0, none⟩)] 94)).cell? ⟨w.heap.size, 1, none⟩ = some (.pointer (some ⟨q, 0, none⟩)) := by simp
  have hBs : B ≤ (w.alloc (.cells #[.pointer (some ⟨p, 0, none⟩), .pointer (some ⟨q, 0, none⟩)] 94)).heap.size := by simp; omega
  refine (table_any p _ ts tag _ (hT1.pboxes _ (unhide HX))).mono ?_
  generalize (w.alloc (.cells #[.pointer (some ⟨p, 0, none⟩), .pointer (some ⟨q, 0, none⟩)] 94)) = w1 at *
  have H1 := hide hT1
  have HB1 := hide hB1
  clear hT1 hB1 hb1
  rintro e w2 (⟨ht, ap, l0, rfl, hO2, hb2⟩ | ⟨ht, rfl, rfl⟩)
  · have hte : tabErr ts tag = 0 := by unfold tabErr; rw [ht]; rfl
    have HT2 := hide ((unhide H1).withL hb2 hO2)
    have HB2 := hide hb2
    have HCR := tableRef_any q _ ts tag w2 ((unhide HT2).rboxes _ (unhide HX))
    rw [hte] at HCR
    have HR := hide HCR
    have c1 := (hb2.cell (p := ⟨_, 1, none⟩) (World.block_lt_of_cell? _ _ c0)).trans c0
    clear HCR ht hte c0 hO2 hb2
    go_wp2_with fail
    refine (unhide HR).mono ?_
    rintro e w3 ⟨rfl, hw3⟩
    have hw4 := hw3.symm
    subst hw4
    clear HR hw3
    go_wp2
    go_loopg [11, 12] 1 (fun z ok i wr => ok = .bool true ∧ i = .int .i64 0 ∧ wr = w2)
    case atStart => exact ⟨rfl, rfl, rfl⟩
    case round =>
      obtain ⟨rfl, rfl, hwr⟩ := hrel
      have HWR := hide hwr
      have HTW := unhide HT2
      rw [← hwr] at HTW
      have HCT := hide (wtable_any wr B wb bs bv mv zv ys cs c _ _ HTW hfew hc)
      have HBW : Hid (Below B w wr) := by
        rw [hwr]
        exact (unhide HB1).trans ((unhide HB2).mono hBs)
      clear hwr HTW HT2 HWR
      go_wp2_with fail
      refine (unhide HCT).mono ?_
      rintro e w4 ⟨rfl, hb4, hinv⟩
      have HI := hide hinv
      have HB4 := hide hb4
      clear hinv hb4 HCT
      go_wp2
      go_ret
      exact ⟨rfl, (unhide HBW).trans (unhide HB4), unhide HI⟩
  · have hte : tabErr ts tag = 5 := by unfold tabErr; rw [ht]; rfl
    have HT2 := hide (unhide H1)
    have HCR := tableRef_any q _ ts tag w2 ((unhide HT2).rboxes _ (unhide HX))
    rw [hte] at HCR
    have HR := hide HCR
    clear HCR ht hte
    go_wp2_with fail
    refine (unhide HR).mono ?_
    rintro e w3 ⟨rfl, hw3⟩
    have hw4 := hw3.symm
    subst hw4
    clear HR hw3
    go_wp2
    go_loopg [11, 12] 1 (fun z ok i wr => ok = .bool true ∧ i = .int .i64 0 ∧ wr = w2)
    case atStart => exact ⟨rfl, rfl, rfl⟩
    case round =>
      obtain ⟨rfl, rfl, hwr⟩ := hrel
      have HWR := hide hwr
      have HTW := unhide HT2
      rw [← hwr] at HTW
      have HCT := hide (wtable_any wr B wb bs bv mv zv ys cs c _ _ HTW hfew hc)
      have HBW : Hid (Below B w wr) := by
        rw [hwr]
        exact unhide HB1
      clear hwr HTW HT2 HWR
      go_wp2_with fail
      refine (unhide HCT).mono ?_
      rintro e w4 ⟨rfl, hb4, hinv⟩
      have HI := hide hinv
      have HB4 := hide hb4
      clear hinv hb4 HCT
      go_wp2
      go_ret
      exact ⟨rfl, (unhide HBW).trans (unhide HB4), unhide HI⟩

end Go.Proofs.Ytgpplekabohneaa.B0

namespace Go.Proofs.Ytgpplekabohneaa.B0
open Go.RowKit

def zT : Ten := ⟨0, 0, 0, 0⟩
def m7 : Ten := ⟨-7, 0, 0, 0⟩

theorem tenCells_length (ts : List Ten) : (tenCells ts).length = ts.length * 4 := by
  induction ts with
  | nil => rfl
  | cons t r ih =>
    have e : tenCells (t :: r) = .int .i64 t.tag :: .int .i64 t.outer :: .int .i64 t.low :: .int .i64 t.high :: tenCells r := rfl
    rw [e]
    simp [ih]
    omega

theorem tenCells_append (a b : List Ten) : tenCells (a ++ b) = tenCells a ++ tenCells b := by simp [tenCells]

theorem tenCells_set : ∀ (ts : List Ten) (i : Nat) (t : Ten), i < ts.length →
    ((((tenCells ts).set (i * 4) (.int .i64 t.tag)).set (i * 4 + 1) (.int .i64 t.outer)).set (i * 4 + 2) (.int .i64 t.low)).set (i * 4 + 3) (.int .i64 t.high) = tenCells (ts.set i t)
  | _ :: r, 0, t, _ => rfl
  | a :: r, i + 1, t, h => by
    have ih := tenCells_set r i t (by simpa using h)
    have e : tenCells (a :: r) = .int .i64 a.tag :: .int .i64 a.outer :: .int .i64 a.low :: .int .i64 a.high :: tenCells r := rfl
    have e' : tenCells ((a :: r).set (i + 1) t) = .int .i64 a.tag :: .int .i64 a.outer :: .int .i64 a.low :: .int .i64 a.high :: tenCells (r.set i t) := rfl
    have e0 : (i + 1) * 4 = i * 4 + 1 + 1 + 1 + 1 := by omega
    rw [e, e', e0, ← ih]
    simp [List.set_cons_succ]

/-- a block of tenants -/
def TenBlock (w : World) (g : Nat) (tt : List Ten) : Prop := w.heap[g]? = some (.cells (tenCells tt).toArray 73 (0, 0))

theorem TenBlock.at {w : World} {g : Nat} {tt : List Ten} (h : TenBlock w g tt) : TenAt w g 0 tt := by
  intro i hi
  obtain ⟨q0, q1, q2, q3⟩ := tenCells_at tt i hi
  unfold TenBlock at h
  refine ⟨?_, ?_, ?_, ?_⟩ <;> simp [World.cell?, h, q0, q1, q2, q3]

theorem TenBlock.frozen {w : World} {g : Nat} {tt : List Ten} (h : TenBlock w g tt) (o : Nat) : w.frozen? ⟨g, o, none⟩ = false := by
  unfold TenBlock at h
  simp [World.frozen?, h]

theorem TenBlock.lt {w : World} {g : Nat} {tt : List Ten} (h : TenBlock w g tt) : g < w.heap.size := (Array.getElem?_eq_some_iff.1 h).1

theorem TenBlock.set {w : World} {g : Nat} {tt : List Ten} (h : TenBlock w g tt) {i : Nat} (hi : i < tt.length) (a b c d : Int) :
    TenBlock ((((w.setCell ⟨g, i * 4, none⟩ (.int .i64 a)).setCell ⟨g, i * 4 + 1, none⟩ (.int .i64 b)).setCell ⟨g, i * 4 + 2, none⟩ (.int .i64 c)).setCell ⟨g, i * 4 + 3, none⟩ (.int .i64 d)) g (tt.set i ⟨a, b, c, d⟩) := by
  unfold TenBlock at h ⊢
  rw [← tenCells_set tt i ⟨a, b, c, d⟩ hi]
  simp [World.setCell, Array.getElem?_modify, h]

theorem below_set4 {w : World} {B g : Nat} (hB : B ≤ g) (o0 o1 o2 o3 : Nat) (a b c d : Value) :
    Below B w ((((w.setCell ⟨g, o0, none⟩ a).setCell ⟨g, o1, none⟩ b).setCell ⟨g, o2, none⟩ c).setCell ⟨g, o3, none⟩ d) :=
  (((((Below.refl B w).setCell (p := ⟨g, o0, none⟩) hB a).setCell (p := ⟨g, o1, none⟩) hB b).setCell (p := ⟨g, o2, none⟩) hB c).setCell (p := ⟨g, o3, none⟩) hB d)

theorem tenCells_rep (n : Nat) : tenCells (List.replicate n zT) = List.replicate (n * 4) (.int .i64 0) := by
  induction n with
  | zero => rfl
  | succ n ih =>
    have e : tenCells (List.replicate (n + 1) zT) = .int .i64 0 :: .int .i64 0 :: .int .i64 0 :: .int .i64 0 :: tenCells (List.replicate n zT) := rfl
    rw [e, ih, show (n + 1) * 4 = n * 4 + 1 + 1 + 1 + 1 by omega]
    simp [List.replicate_succ]

theorem made_zero (k : Nat) : madeCells (Value.agg #[.int .i64 0, .int .i64 0, .int .i64 0, .int .i64 0]).cells k = (List.replicate k (Value.int .i64 0)).toArray := by
  unfold madeCells
  apply Array.ext
  · simp
  · intro i h1 h2
    have : ∀ j, j < 4 → (Value.agg #[.int .i64 0, .int .i64 0, .int .i64 0, .int .i64 0]).cells[j]! = Value.int .i64 0 := by
      intro j hj
      match j, hj with
      | 0, _ => rfl
      | 1, _ => rfl
      | 2, _ => rfl
      | 3, _ => rfl
    have e : (Value.agg #[.int .i64 0, .int .i64 0, .int .i64 0, .int .i64 0]).cells.size = 4 := rfl
    simp only [Array.getElem_map, Array.getElem_range, e]
    rw [this _ (Nat.mod_lt _ (by omega))]
    simp

/-- 'make([]api.Tenant, n)' -/
theorem run_makeT (w : World) (n : Nat) (hn : n ≤ 4400000000000) :
    ∃ w', (Instr.makeSlice 74 (.int .i64 n) (.int .i64 n)).run Try.prog w = .ok (.slice (some ⟨w.heap.size, 0, none⟩) n n) w' ∧ w' = w.alloc (.cells (tenCells (List.replicate n zT)).toArray 73) := by
  obtain ⟨i0, hi, hz0, hz1, hz2⟩ := info_parts info73
  have h := run_make (P := Try.prog) w 74 73 i0 _ Try.underlying74 hi hz0 .i64 .i64 n n (by omega) (Int.le_refl _) (by rw [hz2]; omega) (by omega)
  rw [hz1, made_zero] at h
  simp only [Int.toNat_natCast] at h
  exact ⟨_, h, by rw [tenCells_rep]⟩

/-- 'copy(all, tenants)', the first having room -/
theorem run_copyT (w : World) (ty : TypeId) (g cap : Nat) (S : Nat → Prop) (tv : Value) (ts : List Ten) (k : Nat) (hS : TenSl w S tv ts) (hg : TenBlock w g (List.replicate (ts.length + k) zT)) :
    ∃ v w', (Builtin.copy_ #[74, 74] ty #[.slice (some ⟨g, 0, none⟩) (ts.length + k) cap, tv]).run Try.prog w = .ok v w' ∧ TenBlock w' g (ts ++ List.replicate k zT) ∧ w.grownBy w' (some g) := by
  obtain ⟨i0, hi, hz0, hz1, hz2⟩ := info_parts info73
  rcases hS with ⟨rfl, rfl⟩ | ⟨b, off, scap, rfl, _, hc, hm, hb, hT⟩
  · have h := run_copy_nil (P := Try.prog) w 74 74 ty 73 ⟨g, 0, none⟩ (([] : List Ten).length + k) cap Try.underlying74 (by rw [hi]; rfl)
    exact ⟨_, w, h, by simpa using hg, ⟨rfl, rfl, rfl, Nat.le_refl _, fun _ _ _ => rfl⟩⟩
  · have hsrc : ∀ j v, (tenCells ts)[j]? = some v → w.cell? ((⟨b, off, none⟩ : Addr).add j) = some v := by
      intro j v hv
      have hj : j < ts.length * 4 := by
        have := (List.getElem?_eq_some_iff.1 hv).1
        rwa [tenCells_length] at this
      have hadd : (⟨b, off, none⟩ : Addr).add j = ⟨b, off + j, none⟩ := by unfold Addr.add; split <;> simp_all
      rw [hadd]
      have hi : j / 4 < ts.length := by omega
      obtain ⟨q0, q1, q2, q3⟩ := tenCells_at ts (j / 4) hi
      obtain ⟨t0, t1, t2, t3⟩ := hT (j / 4) hi
      have hr : j = j / 4 * 4 ∨ j = j / 4 * 4 + 1 ∨ j = j / 4 * 4 + 2 ∨ j = j / 4 * 4 + 3 := by omega
      rcases hr with e | e | e | e
      · rw [← e, hv] at q0
        rw [show off + j = off + j / 4 * 4 by omega, t0]
        exact q0.symm
      · rw [← e, hv] at q1
        rw [show off + j = off + j / 4 * 4 + 1 by omega, t1]
        exact q1.symm
      · rw [← e, hv] at q2
        rw [show off + j = off + j / 4 * 4 + 2 by omega, t2]
        exact q2.symm
      · rw [← e, hv] at q3
        rw [show off + j = off + j / 4 * 4 + 3 by omega, t3]
        exact q3.symm
    have hl := run_loadCells_list (P := Try.prog) w ⟨b, off, none⟩ (tenCells ts) hsrc
    have h1 : ∀ v ∈ tenCells ts, v.oneCell' = true := by
      intro v hv
      simp [tenCells] at hv
      obtain ⟨t, _, h | h | h | h⟩ := hv <;> (rw [h]; simp [Value.oneCell'])
    have hfit : 0 + 0 + (tenCells ts).length ≤ (tenCells (List.replicate (ts.length + k) zT)).toArray.size := by
      rw [tenCells_length]
      simp [tenCells_length]
      omega
    have hst := run_storeCells_at Try.prog g 0 73 (tenCells ts) 0 (tenCells (List.replicate (ts.length + k) zT)).toArray w hg hfit h1
    have hmin : Nat.min ts.length (ts.length + k) = ts.length := Nat.min_eq_left (by omega)
    rw [tenCells_length] at hl
    simp only [Nat.add_zero, Nat.zero_add, List.take_zero, List.nil_append] at hst
    refine ⟨goInt ts.length, w.setRow g (tenCells ts ++ List.drop (tenCells ts).length (tenCells (List.replicate (ts.length + k) zT)).toArray.toList).toArray, ?_, ?_, ?_⟩
    · simp [Builtin.copy_, run_underlying Try.underlying74, Builtin.lenOf, Builtin.firstCells, sizeOf, typeInfo, hi, hz1, hmin, hl, hst]
    · have e : tenCells ts ++ List.drop (tenCells ts).length (tenCells (List.replicate (ts.length + k) zT)) = tenCells (ts ++ List.replicate k zT) := by
        rw [tenCells_append, tenCells_length, tenCells_rep, tenCells_rep, List.drop_replicate, show (ts.length + k) * 4 - ts.length * 4 = k * 4 by omega]
      unfold TenBlock
      rw [setRow_heap w g _ _ 73 _ hg]
      show some (Obj.cells (tenCells ts ++ List.drop (tenCells ts).length (tenCells (List.replicate (ts.length + k) zT))).toArray 73) = _
      rw [e]
    · exact ⟨rfl, rfl, rfl, by simp, fun i _ hi => setRow_other w g i _ (fun e => hi (by rw [e]))⟩

/-- a list of tenants that was handed in: nil, empty, or a row of a block -/
def TenArg (w : World) (v : Value) (ts : List Ten) : Prop := TenSl w (fun _ => True) v ts ∨ ∃ a cap, v = .slice (some a) 0 cap ∧ ts = []

theorem TenArg.keep {w w' : World} {v : Value} {ts : List Ten} (h : TenArg w v ts) (hsz : w.heap.size ≤ w'.heap.size) (hk : ∀ k, k < w.heap.size → w'.heap[k]? = w.heap[k]?) : TenArg w' v ts := by
  rcases h with h | h
  · exact .inl (h.keep hsz (fun _ _ _ => trivial) (fun k _ hk' => hk k hk'))
  · exact .inr h

theorem run_copyA (w : World) (ty : TypeId) (g cap : Nat) (tv : Value) (ts : List Ten) (k : Nat) (hS : TenArg w tv ts) (hg : TenBlock w g (List.replicate (ts.length + k) zT)) :
    ∃ v w', (Builtin.copy_ #[74, 74] ty #[.slice (some ⟨g, 0, none⟩) (ts.length + k) cap, tv]).run Try.prog w = .ok v w' ∧ TenBlock w' g (ts ++ List.replicate k zT) ∧ w.grownBy w' (some g) := by
  rcases hS with hS | ⟨a, sc, rfl, rfl⟩
  · exact run_copyT w ty g cap _ tv ts k hS hg
  · obtain ⟨i0, hi, hz0, hz1, hz2⟩ := info_parts info73
    refine ⟨goInt 0, w, ?_, by simpa using hg, ⟨rfl, rfl, rfl, Nat.le_refl _, fun _ _ _ => rfl⟩⟩
    have hmin : Nat.min 0 k = 0 := Nat.min_eq_left (by omega)
    simp [Builtin.copy_, run_underlying Try.underlying74, Builtin.lenOf, Builtin.firstCells, sizeOf, typeInfo, hi, hmin, loadCells, loadCellsFrom, storeCells]

set_option maxRecDepth 100000 in
theorem refNew_empty (tp : Option Addr) (tc : Nat) (w : World) : Calls Try.prog 55 #[.slice tp 0 tc] w fun e w' => RefEnd w [] e w' := by
  go_enter Try.func55, Try.ntmps55
  go_wp2
  go_loopg [5] 1 (fun k i wr => i = .int .i64 0 ∧ wr = w.alloc (.cells #[.slice none 0 0, .slice none 0 0] 137))
  case atStart => exact ⟨rfl, rfl⟩
  case round =>
    obtain ⟨rfl, hwr⟩ := hrel
    have HW := hide hwr
    clear hwr
    go_wp2
    go_ret2
    have hwr := unhide HW
    refine ⟨?_, .inr ⟨rfl, _, rfl, ?_⟩⟩
    · rw [hwr]
      exact (Below.refl _ _).alloc (Nat.le_refl _) _
    · exact ⟨Nat.le_refl _, by simp, by simp, .slice none 0 0, by rw [hwr]; exact blkN _ _ _ rfl, .inl ⟨rfl, rfl⟩⟩

theorem info94 : (Try.prog.info? 94).map (fun i => (i.zero, i.size, i.bytes)) = some (some (.agg #[.pointer none, .pointer none]), 2, 16) := by kernel_rfl

section
variable {W w5 : World} {B wb : Nat} {bs : List (Nat × Nat × List Ten)} {bv mv zv : Value} {ys : List Value} {cs : List Nat} {c g cap : Nat}

theorem boxCells_snoc (bs : List (Nat × Nat × List Ten)) (x : Nat × Nat × List Ten) : boxCells (bs ++ [x]) = boxCells bs ++ [.pointer (some ⟨x.1, 0, none⟩), .pointer (some ⟨x.2.1, 0, none⟩)] := by simp [boxCells]

/-- a box more -/
theorem TabInv.stepB (h : TabInv W B wb bs bv mv zv nilS ys [] cs c 0 0) (p q : Nat) (ts : List Ten)
    (hp : ProgBox W (Free wb bv mv zv nilS) p ts) (hq : RefBox W (Free wb bv mv zv nilS) q ts) (h8 : bs.length < 8)
    (hown : w5.ownsRow B 94 2 (.slice (some ⟨g, 0, none⟩) (bs.length + 1) cap) (bs.length + 1) (boxCells bs ++ [.pointer (some ⟨p, 0, none⟩), .pointer (some ⟨q, 0, none⟩)]))
    (hgr : (bv.ownBlock = some g ∧ W.grownBy w5 (some g)) ∨ (g = W.heap.size ∧ W.grownBy w5 none)) :
    TabInv (w5.setCell ⟨wb, 0, none⟩ (.slice (some ⟨g, 0, none⟩) (bs.length + 1) cap)) B wb (bs ++ [(p, q, ts)]) (.slice (some ⟨g, 0, none⟩) (bs.length + 1) cap) mv zv nilS ys [] cs c 0 0 ∧
      Below B W (w5.setCell ⟨wb, 0, none⟩ (.slice (some ⟨g, 0, none⟩) (bs.length + 1) cap)) := by
  have hwb := (Array.getElem?_eq_some_iff.1 h.blk).1
  have hsz := size_x hgr
  have hn : ∀ k, k < W.heap.size → bv.ownBlock ≠ some k → g ≠ k := fun k hk hne => new_x hgr hk hne
  have e0 : ∀ (u : Value) (k : Nat), k < W.heap.size → k ≠ wb → bv.ownBlock ≠ some k → (w5.setCell ⟨wb, 0, none⟩ u).heap[k]? = W.heap[k]? := fun u k h1 h2 h3 => (Below.heap_setCell w5 _ u k h2).trans (kept_x hgr h1 h3)
  have hwb5 : w5.heap[wb]? = some (.cells (wcells bv mv zv c) 70 (0, 0)) := (kept_x hgr hwb h.wbv).trans h.blk
  have hs6 : ∀ u, (w5.setCell ⟨wb, 0, none⟩ u).heap.size = w5.heap.size := fun u => by simp [World.setCell]
  have hfree : ∀ k, Free wb bv mv zv nilS k → k < W.heap.size → Free wb (.slice (some ⟨g, 0, none⟩) (bs.length + 1) cap) mv zv nilS k := fun k hf hk => ⟨hf.1, fun e => hn k hk hf.2.1 (by simpa [Value.ownBlock] using e), hf.2.2⟩
  have hkeep : ∀ (u : Value) (k : Nat), Free wb bv mv zv nilS k → k < W.heap.size → (w5.setCell ⟨wb, 0, none⟩ u).heap[k]? = W.heap[k]? := fun u k hf hk => e0 u k hk hf.1 hf.2.1
  have hnil : ∀ (v : Value), Dis v nilS := fun v k _ e => by simp [nilS, Value.ownBlock] at e
  refine ⟨⟨?_, h.base, ?_, ?_, ?_, World.ownsRow_nil _ _ _ _, h.len, by simp; omega, ?_, h.wmv, h.wzv, h.wlv, ?_, ?_, hnil _, h.mz, hnil _, hnil _, ?_, ?_, ?_, by simp, h.small⟩, ?_⟩
  · simp [World.setCell, Array.getElem?_modify, hwb5, wcells]
  · rw [boxCells_snoc, show (bs ++ [(p, q, ts)]).length = bs.length + 1 by simp]
    exact ownsRow_of_block hown (fun k hk => Below.heap_setCell w5 _ _ k (fun e => by
      have : g = k := by simpa [Value.ownBlock] using hk
      exact hn wb hwb h.wbv (this.trans e)))
  · exact ownsRow_of_block h.mown (fun k hk => e0 _ k (h.mown.lt k hk).2 (fun e => h.wmv (by rw [hk, e])) (h.bm.symm k hk))
  · exact ownsRow_of_block h.zown (fun k hk => e0 _ k (h.zown.lt k hk).2 (fun e => h.wzv (by rw [hk, e])) (h.bz.symm k hk))
  · intro e
    exact hn wb hwb h.wbv (by simpa [Value.ownBlock] using e)
  · exact Dis.symm (fun k hk e => hn k (h.mown.lt k hk).2 (h.bm.symm k hk) (by simpa [Value.ownBlock] using e))
  · exact Dis.symm (fun k hk e => hn k (h.zown.lt k hk).2 (h.bz.symm k hk) (by simpa [Value.ownBlock] using e))
  · intro x hx
    rcases List.mem_append.1 hx with hx | hx
    · exact (h.pboxes x hx).keep (by rw [hs6]; exact hsz) hfree (hkeep _)
    · simp at hx
      subst hx
      exact hp.keep (by rw [hs6]; exact hsz) hfree (hkeep _)
  · intro x hx
    rcases List.mem_append.1 hx with hx | hx
    · exact (h.rboxes x hx).keep (by rw [hs6]; exact hsz) hfree (hkeep _)
    · simp at hx
      subst hx
      exact hq.keep (by rw [hs6]; exact hsz) hfree (hkeep _)
  · exact fun i h1 h2 => (h.marks i h1 h2).keep (Nat.le_refl _) (by rw [hs6]; exact hsz) hfree (hkeep _)
  · exact (below_x hgr (by have := h.base; omega) (fun k hk => (h.bown.lt k hk).1)).setCell h.base _

/-- blocks that came later are free -/
theorem TabInv.later {w0 : World} {l : Value} {nw : List Value} {kz kl : Nat} (h : TabInv w0 B wb bs bv mv zv l ys nw cs c kz kl) {k : Nat} (hk : w0.heap.size ≤ k) : Free wb bv mv zv nilS k := by
  have hwb := (Array.getElem?_eq_some_iff.1 h.blk).1
  refine ⟨by omega, fun e => ?_, fun e => ?_, fun e => ?_, by simp [nilS, Value.ownBlock]⟩
  · have := (h.bown.lt k e).2; omega
  · have := (h.mown.lt k e).2; omega
  · have := (h.zown.lt k e).2; omega
end

/-- the tenants that the owner writes over his list -/
def freshT (n : Nat) : List Ten := (List.range n).map fun i : Nat => ⟨1 + (i : Int), 70 + (i : Int), 5, 5⟩

theorem freshT_length (n : Nat) : (freshT n).length = n := by simp [freshT]

theorem freshT_take (n m : Nat) (h : n ≤ m) : (freshT m).take n = freshT n := by
  unfold freshT
  rw [← List.map_take, List.take_range, Nat.min_eq_left h]

/-- i of them written over the list -/
theorem over_set (xs : List Ten) (i : Nat) (h : i < xs.length) : (freshT i ++ xs.drop i).set i ⟨1 + (i : Int), 70 + (i : Int), 5, 5⟩ = freshT (i + 1) ++ xs.drop (i + 1) := by
  have e : freshT (i + 1) = freshT i ++ [⟨1 + (i : Int), 70 + (i : Int), 5, 5⟩] := by
    unfold freshT
    rw [List.range_succ, List.map_append]
    rfl
  rw [List.drop_eq_getElem_cons h, e]
  rw [List.set_append_right _ _ (by rw [freshT_length]; exact Nat.le_refl _), freshT_length, Nat.sub_self, List.set_cons_zero, List.append_assoc]
  rfl

theorem over_at (xs : List Ten) (i : Nat) (h : i < xs.length) (h' : i < (freshT i ++ xs.drop i).length) : (freshT i ++ xs.drop i)[i] = xs[i] := by
  rw [List.getElem_append_right (by rw [freshT_length]; exact Nat.le_refl _)]
  simp [freshT_length]

theorem fill_set (ts : List Ten) (k : Nat) (h : k < 4) : (ts ++ List.replicate k m7 ++ List.replicate (4 - k) zT).set (ts.length + k) m7 = ts ++ List.replicate (k + 1) m7 ++ List.replicate (4 - (k + 1)) zT := by
  rw [List.set_append_right _ _ (by simp)]
  have e : ts.length + k - (ts ++ List.replicate k m7).length = 0 := by simp
  rw [e, show 4 - k = (4 - (k + 1)) + 1 by omega, List.replicate_succ, List.set_cons_zero]
  simp [List.replicate_succ', List.append_assoc]

end Go.Proofs.Ytgpplekabohneaa.B0
