/- The statement's world whole; 'still': all lists read as their owner wrote them. -/
import Derived.Test.YtgpplekabohneaaXd
import Derived.Deep.CutRange
import Derived.Deep.CutBlock
namespace Go.Proofs.Ytgpplekabohneaa
open Go.RowKit

attribute [local go_sem ↓] Go.wp_at_zero Go.wp_at_succ

def boxC (bs : List BX) : List Value := bs.flatMap fun x => [.pointer (some ⟨x.b, 0, none⟩), .pointer (some ⟨x.r, 0, none⟩)]
def pksC (ps : List Pk) : List Value := ps.flatMap fun p => (pkC p).toList

/-- what the rows hold -/
structure WX (ln : Nat → Nat) (xs : Nat → List Value) (bs : List BX) (ps : List Pk) (nl yl : List (Value × Nat)) : Prop where
  l2 : ln 2 = bs.length
  x2 : xs 2 = boxC bs
  l3 : ln 3 = ps.length
  x3 : xs 3 = pksC ps
  l4 : ln 4 = nl.length
  x4 : xs 4 = nl.map (·.1)
  l5 : ln 5 = nl.length
  x5 : xs 5 = nl.map (fun p => mkV p.2)
  l6 : ln 6 = yl.length
  x6 : xs 6 = yl.map (·.1)
  l7 : ln 7 = yl.length
  x7 : xs 7 = yl.map (fun p => ckV p.2)

structure WI (w : World) (B : Nat) (col : Nat → Nat) (wb : Nat) (bs : List BX) (ps : List Pk) (nl yl : List (Value × Nat)) (c : Nat) : Prop where
  rows : ∃ rv ln xs, WR w B col wb rv ln xs c ∧ WX ln xs bs ps nl yl
  boxes : ∀ i (h : i < bs.length), BXok w col i bs[i]
  nums : ∀ p ∈ nl, MarkN w (fun k => col k = 8) p.1 p.2 ∧ p.2 ≤ c
  marks : ∀ p ∈ yl, MarkM w (fun k => col k = 8) p.1 p.2 ∧ p.2 ≤ c
  nb : bs.length ≤ 8
  np : ps.length ≤ 500
  few : nl.length ≤ 4 * c ∧ yl.length ≤ 4 * c

theorem neg_wrap0 (q : Nat) (hq : q ≤ 1000000000) : IntKind.i64.wrap (-(q : Int)) = -(q : Int) := by rw [IntKind.wrap_i64]; omega

set_option maxHeartbeats 4000000 in
set_option maxRecDepth 100000 in
theorem wstill_any {w : World} {B : Nat} {col : Nat → Nat} {wb : Nat} {bs : List BX} {ps : List Pk} {nl yl : List (Value × Nat)} {c : Nat} (h : WI w B col wb bs ps nl yl c) (hc : c ≤ 900000000) :
    Calls Try.prog 25 #[.pointer (some ⟨wb, 0, none⟩)] w fun e w' => e = .returned (.bool true) ∧ Below w.heap.size w w' := by
  obtain ⟨⟨rv, ln, xs, hW, hX⟩, -, hN, hM, -, -, hf⟩ := h
  obtain ⟨-, -, c2, c3, c4, c5, c6, c8, -, -⟩ := hW.cells
  have r4 := (hW.rows 4 (by omega) (by omega)).1
  have r5 := (hW.rows 5 (by omega) (by omega)).1
  have r6 := (hW.rows 6 (by omega) (by omega)).1
  have r7 := (hW.rows 7 (by omega) (by omega)).1
  rw [hX.l4, hX.x4] at r4
  rw [hX.l5, hX.x5] at r5
  rw [hX.l6, hX.x6] at r6
  rw [hX.l7, hX.x7] at r7
  obtain ⟨a4, p4, e4, k4, m4, s4⟩ := row1_cells r4
  obtain ⟨a5, p5, e5, k5, m5, s5⟩ := row1_cells r5
  obtain ⟨a6, p6, e6, k6, m6, s6⟩ := row1_cells r6
  obtain ⟨a7, p7, e7, k7, m7, s7⟩ := row1_cells r7
  rw [e4] at c2
  rw [e5] at c3
  rw [e6] at c4
  rw [e7] at c5
  obtain ⟨hwb, -⟩ := hW.bound
  obtain ⟨N, hNl⟩ : ∃ N, nl.length = N := ⟨_, rfl⟩
  obtain ⟨Y, hYl⟩ : ∃ Y, yl.length = Y := ⟨_, rfl⟩
  have HN := hide hN
  have HM := hide hM
  have HS4 := hide s4
  have HS5 := hide s5
  have HS6 := hide s6
  have HS7 := hide s7
  have HNL := hide hNl
  have HYL := hide hYl
  have HC := hide hc
  rw [hNl] at c2 c3 k4 k5 hf
  rw [hYl] at c4 c5 k6 k7 hf
  have HK := hide (And.intro k4 (And.intro k5 (And.intro k6 k7)))
  have HKM := hide (And.intro m4 (And.intro m5 (And.intro m6 m7)))
  have hNb : N ≤ 4000000000 := by omega
  have hYb : Y ≤ 4000000000 := by omega
  have HFF := hide (And.intro hNb hYb)
  clear hN hM s4 s5 s6 s7 r4 r5 r6 r7 hW hX e4 e5 e6 e7 hNl hYl hc k4 k5 k6 k7 m4 m5 m6 m7 hf hNb hYb
  go_enter Try.func25, Try.ntmps25
  go_upto_block 0 with fail
  go_cut [] from 3 to 51 (fun wx => Below w.heap.size w wx)
  case first =>
    clear c4 c5 c6 c8 HS6 HS7 HM HYL
    go_wp2_with fail
    go_loopg [3] N (fun z i wr => ∃ j : Nat, j ≤ N ∧ z = N - j ∧ i = .int .i64 j ∧ Below w.heap.size w wr)
    case atStart => exact ⟨0, Nat.zero_le _, rfl, rfl, Below.refl _ _⟩
    case round =>
      obtain ⟨j, hj, hz, rfl, hbl⟩ := hrel
      have HZ := hide hz
      have HB := hide hbl
      have d2 := (hbl.cell (p := ⟨wb, 2, none⟩) hwb).trans c2
      have d3 := (hbl.cell (p := ⟨wb, 3, none⟩) hwb).trans c3
      clear hz hbl
      by_cases hlt : j < N
      · have hjl : j < nl.length := by have := unhide HNL; omega
        obtain ⟨g4, rfl, hg4, hc4⟩ := unhide HS4 (by omega)
        obtain ⟨g5, rfl, hg5, hc5⟩ := unhide HS5 (by omega)
        have x4 := (unhide HB).cell (p := ⟨g4, j, none⟩) hg4
        rw [hc4 j nl[j].1 (by simp [hjl])] at x4
        have x5 := (unhide HB).cell (p := ⟨g5, j, none⟩) hg5
        rw [hc5 j (mkV nl[j].2) (by simp [hjl])] at x5
        unfold mkV at x5
        obtain ⟨⟨ao, n, cap, hv, b1, b2, b3⟩, hq⟩ := unhide HN _ (List.getElem_mem hjl)
        rw [hv] at x4
        generalize nl[j].2 = q at *
        have HQ := hide hq
        have HB3 := hide b3
        have b2' : cap ≤ 2 ^ 63 - 1 := b2
        obtain ⟨wo, hwo⟩ : ∃ wo, wo = wr := ⟨_, rfl⟩
        subst hwo
        have hks := unhide HK
        have hms := unhide HKM
        unfold maxLen at hms
        obtain ⟨k4, k5, -, -⟩ := hks
        obtain ⟨m4, m5, -, -⟩ := hms
        clear hc4 hc5 hv b3 hq b2
        go_wp2_with fail
        go_loopg [4] n (fun z i wr => ∃ k : Nat, k ≤ n ∧ z = n - k ∧ i = .int .i64 k ∧ Below wo.heap.size wo wr)
        case atStart => exact ⟨0, Nat.zero_le _, rfl, rfl, Below.refl _ _⟩
        case round =>
          obtain ⟨k, hk, hz, rfl, hb2⟩ := hrel
          have HY := hide hz
          have HB2 := hide hb2
          have hs2 := hb2.size
          have hlo : w.heap.size ≤ wo.heap.size := (unhide HB).size
          have lt : ∀ (a : Addr) (v : Value), wo.cell? a = some v → wr.cell? a = some v := fun a v ha => (hb2.cell (World.block_lt_of_cell? wo a ha)).trans ha
          have y2 := lt _ _ d2
          have y3 := lt _ _ d3
          have y4 := lt _ _ x4
          have y5 := lt _ _ x5
          have LT := hide lt
          clear hz hb2 lt d2 d3 x4 x5
          by_cases hkn : k < n
          · obtain ⟨g, rfl, hg, -, hcell⟩ := unhide HB3 (by omega)
            have z0 := unhide LT _ _ (((unhide HB).cell (p := ⟨g, k, none⟩) hg).trans (hcell k hkn))
            clear hcell
            go_wp2_with fail
            go_big_quiet (fail)
            go_wp2_with fail
            go_roundg (n - (k + 1))
            case measure => have := unhide HY; omega
            case rel => exact ⟨k + 1, by omega, rfl, by go_num, below_drewN (unhide HB2) _⟩
          · go_wp2_with fail
            go_roundg (N - (j + 1))
            case measure => have := unhide HZ; omega
            case rel => exact ⟨j + 1, by omega, rfl, by go_num, (unhide HB).trans ((unhide HB2).mono hlo)⟩
      · go_wp2_with fail
        go_meet
        exact unhide HB
  case rest =>
  rename World => wp
  have HBP := hide hcut
  have hwp := hcut.size
  clear HN HS4 HS5 HNL c2 c3 hcut
  go_upto_block 4 with fail
  go_cut [] from 5 to 121 (fun wx => Below w.heap.size w wx)
  case first =>
    clear c6 c8
    go_wp2_with fail
    go_loopg [5] Y (fun z i wr => ∃ j : Nat, j ≤ Y ∧ z = Y - j ∧ i = .int .i64 j ∧ Below w.heap.size w wr)
    case atStart => exact ⟨0, Nat.zero_le _, rfl, rfl, unhide HBP⟩
    case round =>
      obtain ⟨j, hj, hz, rfl, hbl⟩ := hrel
      have HZ := hide hz
      have HB := hide hbl
      have d2 := (hbl.cell (p := ⟨wb, 4, none⟩) hwb).trans c4
      have d3 := (hbl.cell (p := ⟨wb, 5, none⟩) hwb).trans c5
      clear hz hbl HBP
      by_cases hlt : j < Y
      · have hjl : j < yl.length := by have := unhide HYL; omega
        obtain ⟨g4, rfl, hg4, hc4⟩ := unhide HS6 (by omega)
        obtain ⟨g5, rfl, hg5, hc5⟩ := unhide HS7 (by omega)
        have x4 := (unhide HB).cell (p := ⟨g4, j, none⟩) hg4
        rw [hc4 j yl[j].1 (by simp [hjl])] at x4
        have x5 := (unhide HB).cell (p := ⟨g5, j, none⟩) hg5
        rw [hc5 j (ckV yl[j].2) (by simp [hjl])] at x5
        unfold ckV at x5
        obtain ⟨⟨ao, n, cap, hv, b1, b2, b3⟩, hq⟩ := unhide HM _ (List.getElem_mem hjl)
        rw [hv] at x4
        generalize yl[j].2 = q at *
        have hqb : q ≤ 900000000 := Nat.le_trans hq (unhide HC)
        have HQ := hide hqb
        have HB3 := hide b3
        have b2' : cap ≤ 2 ^ 63 - 1 := b2
        obtain ⟨wo, hwo⟩ : ∃ wo, wo = wr := ⟨_, rfl⟩
        subst hwo
        have hks := unhide HK
        have hms := unhide HKM
        unfold maxLen at hms
        obtain ⟨-, -, k4, k5⟩ := hks
        obtain ⟨-, -, m4, m5⟩ := hms
        clear hc4 hc5 hv b3 hq b2 hqb
        go_wp2_with fail
        go_loopg [6] n (fun z i wr => ∃ k : Nat, k ≤ n ∧ z = n - k ∧ i = .int .i64 k ∧ Below wo.heap.size wo wr)
        case atStart => exact ⟨0, Nat.zero_le _, rfl, rfl, Below.refl _ _⟩
        case round =>
          obtain ⟨k, hk, hz, rfl, hb2⟩ := hrel
          have HY := hide hz
          have HB2 := hide hb2
          have hs2 := hb2.size
          have hlo : w.heap.size ≤ wo.heap.size := (unhide HB).size
          have lt : ∀ (a : Addr) (v : Value), wo.cell? a = some v → wr.cell? a = some v := fun a v ha => (hb2.cell (World.block_lt_of_cell? wo a ha)).trans ha
          have t4 := lt _ _ d2
          have t5 := lt _ _ d3
          have q4 := lt _ _ x4
          have q5 := lt _ _ x5
          have LT := hide lt
          clear hz hb2 lt d2 d3 x4 x5
          by_cases hkn : k < n
          · obtain ⟨g, rfl, hg, -, hcell⟩ := unhide HB3 (by omega)
            have up1 : ∀ o u, (markC q)[o]? = some u → wr.cell? ⟨g, k * 7 + o, none⟩ = some u := fun o u hu => unhide LT _ _ (((unhide HB).cell (p := ⟨g, k * 7 + o, none⟩) hg).trans (hcell k o u hkn hu))
            have y0 := up1 0 _ rfl
            have y1 := up1 1 _ rfl
            have y2 := up1 2 _ rfl
            have y3 := up1 3 _ rfl
            have y4 := up1 4 _ rfl
            have y5 := up1 5 _ rfl
            have y6 := up1 6 _ rfl
            rw [Nat.add_zero] at y0
            have t5a : ∀ X, (wr.alloc X).cell? ⟨wb, 5, none⟩ = some (Value.slice (some { block := g5, off := 0 }) Y p7) := fun X => cellA t5
            have q5a : ∀ X, (wr.alloc X).cell? ⟨g5, j, none⟩ = some (Value.int IntKind.i64 q) := fun X => cellA q5
            clear hcell up1
            go_wp2_with fail
            have hwrap := neg_wrap0 q (Nat.le_trans (unhide HQ) (by decide))
            go_big_quiet (fail)
            clear hwrap
            go_wp2_with fail
            go_roundg (n - (k + 1))
            case measure => have := unhide HY; omega
            case rel => exact ⟨k + 1, by omega, rfl, by go_num, below_drewN ((unhide HB2).alloc hs2 _) _⟩
          · go_wp2_with fail
            go_roundg (Y - (j + 1))
            case measure => have := unhide HZ; omega
            case rel => exact ⟨j + 1, by omega, rfl, by go_num, (unhide HB).trans ((unhide HB2).mono hlo)⟩
      · go_wp2_with fail
        go_meet
        exact unhide HB
  case rest =>
  have HBC := hide hcut
  have d6 := (hcut.cell (p := ⟨wb, 6, none⟩) hwb).trans c6
  have d8 := (hcut.cell (p := ⟨wb, 8, none⟩) hwb).trans c8
  clear hcut c4 c5 c6 c8 HS6 HS7 HM HYL HBP
  go_wp2_with fail
  obtain ⟨wo, hwo⟩ : ∃ wo, wo = wc := ⟨_, rfl⟩
  subst hwo
  go_loopg [8] 1 (fun z i wr => i = .int .i64 0 ∧ wr = wo)
  case atStart => exact ⟨rfl, rfl⟩
  case round =>
    obtain ⟨rfl, hwr⟩ := hrel
    have hwr2 := hwr.symm
    subst hwr2
    clear hwr
    go_wp2_with fail
    go_loopg [11] 1 (fun z i wr => i = .int .i64 0 ∧ wr = wo)
    case atStart => exact ⟨rfl, rfl⟩
    case round =>
      obtain ⟨rfl, hwr⟩ := hrel
      have hwr2 := hwr.symm
      subst hwr2
      clear hwr
      go_wp2
      go_ret
      exact ⟨rfl, unhide HBC⟩

end Go.Proofs.Ytgpplekabohneaa
