/- 'still': all lists read as their owner wrote them. -/
import Derived.Test.YtgpplekabohneaaHe
namespace Go.Proofs.Ytgpplekabohneaa.B0
open Go.RowKit

attribute [local go_sem ↓] Go.wp_at_zero Go.wp_at_succ

section
variable {W : World} {B wb : Nat} {bs : List (Nat × Nat × List Ten)} {bv mv zv l : Value} {ys nw : List Value} {cs : List Nat} {c kz kl : Nat}

theorem TabInv.nils (h : TabInv W B wb bs bv mv zv l ys nw cs c kz kl) :
    W.cell? ⟨wb, 1, none⟩ = some (.slice none 0 0) ∧ W.cell? ⟨wb, 2, none⟩ = some (.slice none 0 0) ∧ W.cell? ⟨wb, 3, none⟩ = some (.slice none 0 0) ∧ W.cell? ⟨wb, 6, none⟩ = some (.slice none 0 0) ∧ W.cell? ⟨wb, 7, none⟩ = some (.slice none 0 0) ∧ W.cell? ⟨wb, 8, none⟩ = some (.slice none 0 0) ∧ W.cell? ⟨wb, 9, none⟩ = some (.slice none 0 0) := by
  refine ⟨?_, ?_, ?_, ?_, ?_, ?_, ?_⟩ <;> simp [World.cell?, h.blk, wcells, nilS]
end

/-- the elements of a row of one cell each -/
theorem owns_cell {w : World} {B e n : Nat} {v : Value} {xs : List Value} (h : w.ownsRow B e 1 v n xs) {i : Nat} (hi : i < n) :
    ∃ g cap, v = .slice (some ⟨g, 0, none⟩) n cap ∧ n ≤ cap ∧ cap ≤ maxLen ∧ ∀ (j : Nat) (u : Value), xs[j]? = some u → w.cell? ⟨g, j, none⟩ = some u := by
  rcases h.2 with ⟨_, h0⟩ | ⟨g, cap, cur, rfl, hbg, hg, hnc, hcm, hcs, htake⟩
  · omega
  · refine ⟨g, cap, rfl, hnc, hcm, fun j u hu => ?_⟩
    have := h.cells (g := g) rfl j u hu
    have hadd : (⟨g, 0, none⟩ : Addr).add j = ⟨g, j, none⟩ := by unfold Addr.add; split <;> simp_all
    rwa [hadd] at this

set_option maxRecDepth 100000 in
set_option maxHeartbeats 1000000 in
theorem still_any (w : World) (B wb : Nat) (bs : List (Nat × Nat × List Ten)) (bv mv zv : Value) (ys : List Value) (cs : List Nat) (c : Nat) (h : Inv w B wb bs bv mv zv ys cs c) (hc : c ≤ 1760000000000) :
    Calls Try.prog 25 #[.pointer (some ⟨wb, 0, none⟩)] w fun e w' => e = .returned (.bool true) ∧ Below w.heap.size w w' := by
  obtain ⟨h, hfew⟩ := h
  obtain ⟨-, n2, n3, n6, n7, n8, n9⟩ := h.nils
  obtain ⟨-, c4, c5, -, -⟩ := h.cells
  have HT := hide h
  clear h
  go_enter Try.func25, Try.ntmps25
  go_wp2
  go_loopg [3] 1 (fun z i wr => i = .int .i64 0 ∧ wr = w)
  case atStart => exact ⟨rfl, rfl⟩
  case round =>
    obtain ⟨rfl, hwr⟩ := hrel
    have hwr2 := hwr.symm
    subst hwr2
    clear hwr
    go_wp2
    go_loopg [5] ys.length (fun z i wr => ∃ j : Nat, j ≤ ys.length ∧ z = ys.length - j ∧ i = .int .i64 j ∧ Below w.heap.size w wr)
    case atStart => exact ⟨0, Nat.zero_le _, rfl, rfl, Below.refl _ _⟩
    case round =>
      obtain ⟨j, hj, hz, rfl, hbl⟩ := hrel
      have HZ := hide hz
      have HB := hide hbl
      have hT := (unhide HT).below hbl
      obtain ⟨-, m2, m3, m6, m7, m8, m9⟩ := hT.nils
      obtain ⟨-, d4, d5, -, -⟩ := hT.cells
      have hlt0 : w.heap.size ≤ wr.heap.size := hbl.size
      clear hz hbl c4 c5 n2 n3 n6 n7 n8 n9
      by_cases hlt : j < ys.length
      · obtain ⟨gm, mc, hmv, hmc, hmm, hmcell⟩ := owns_cell hT.mown (i := j) (by simpa using hlt)
        obtain ⟨gz, zc, hzv, hzc, hzm, hzcell⟩ := owns_cell hT.zown (i := j) (by simpa using hlt)
        have hcj : j < cs.length := by rw [hT.len]; exact hlt
        have k4 := hmcell j ys[j] (by simp [hlt])
        have k5 := hzcell j (.int .i64 cs[j]) (by simp [hcj])
        have hmk := hT.marks j hlt hcj
        have hsm := hT.small cs[j] (List.getElem_mem hcj)
        simp only [List.length_nil, Nat.add_zero] at hmv hzv hmc hzc
        rw [hmv] at d4
        rw [hzv] at d5
        unfold maxLen at hmm hzm
        have hjn : (j : Int) < (ys.length : Int) := by omega
        generalize hyj : ys[j] = y at *
        generalize cs[j] = q at *
        clear hmv hzv hmcell hzcell hyj hcj hT m2 m3 m6 m7 m8 m9
        obtain ⟨wo, hwo⟩ : ∃ wo, wo = wr := ⟨_, rfl⟩
        subst hwo
        rcases hmk with rfl | ⟨g, m, cap, rfl, hm4, hmcap, hcapm, -, hg, hcells⟩
        · unfold nilS at k4
          go_wp2
          go_loopg [6] 1 (fun z i wr => i = .int .i64 0 ∧ wr = wo)
          case atStart => exact ⟨rfl, rfl⟩
          case round =>
            obtain ⟨rfl, hwr⟩ := hrel
            have hwr2 := hwr.symm
            subst hwr2
            clear hwr
            go_wp2
            go_roundg (ys.length - (j + 1))
            case measure => have := unhide HZ; omega
            case rel => exact ⟨j + 1, by omega, rfl, by go_num, unhide HB⟩
        · unfold maxLen at hcapm
          have HC := hide hcells
          clear hcells
          have hwrap : IntKind.i64.wrap (-(q : Int)) = -(q : Int) := by rw [IntKind.wrap_i64]; omega
          go_wp2
          go_loopg [6] m (fun z i wr => ∃ k : Nat, k ≤ m ∧ z = m - k ∧ i = .int .i64 k ∧ Below wo.heap.size wo wr)
          case atStart => exact ⟨0, Nat.zero_le _, rfl, rfl, Below.refl _ _⟩
          case round =>
            obtain ⟨k, hk, hz, rfl, hb2⟩ := hrel
            have HY := hide hz
            have HB2 := hide hb2
            have hs2 := hb2.size
            have lt : ∀ (a : Addr) (v : Value), wo.cell? a = some v → wr.cell? a = some v := fun a v ha => (hb2.cell (World.block_lt_of_cell? wo a ha)).trans ha
            have p4 := lt _ _ d4
            have p5 := lt _ _ d5
            have q4 := lt _ _ k4
            have q5 := lt _ _ k5
            have LT := hide lt
            clear hz hb2 lt d4 d5 k4 k5
            by_cases hkm : k < m
            · have hkm' : (k : Int) < (m : Int) := by omega
              have y0 := unhide LT _ _ (unhide HC k 0 _ hkm rfl)
              have y1 := unhide LT _ _ (unhide HC k 1 _ hkm rfl)
              have y2 := unhide LT _ _ (unhide HC k 2 _ hkm rfl)
              have y3 := unhide LT _ _ (unhide HC k 3 _ hkm rfl)
              have y4 := unhide LT _ _ (unhide HC k 4 _ hkm rfl)
              have y5 := unhide LT _ _ (unhide HC k 5 _ hkm rfl)
              have y6 := unhide LT _ _ (unhide HC k 6 _ hkm rfl)
              rw [Nat.add_zero] at y0
              have p5a : ∀ X, (wr.alloc X).cell? ⟨wb, 5, none⟩ = some (Value.slice (some { block := gz, off := 0 }) ys.length zc) := fun X => cellA p5
              have q5a : ∀ X, (wr.alloc X).cell? ⟨gz, j, none⟩ = some (Value.int IntKind.i64 q) := fun X => cellA q5
              go_wp2
              go_quiet (fail)
              go_wp2
              go_roundg (m - (k + 1))
              case measure => have := unhide HY; omega
              case rel => exact ⟨k + 1, by omega, rfl, by go_num, ((unhide HB2).alloc hs2 _).trans ⟨rfl, rfl, rfl, by simp, fun _ _ => rfl⟩⟩
            · go_wp2
              go_roundg (ys.length - (j + 1))
              case measure => have := unhide HZ; omega
              case rel => exact ⟨j + 1, by omega, rfl, by go_num, (unhide HB).trans ((unhide HB2).mono hlt0)⟩
      · have hn : ∃ mp mc, mv = .slice mp ys.length mc := by
          have := hT.mown
          rcases this.2 with ⟨h1, h2⟩ | ⟨g, cap, cur, h1, _⟩
          · exact ⟨none, 0, by rw [h1]; simp at h2; rw [h2]; rfl⟩
          · exact ⟨some ⟨g, 0, none⟩, cap, by rw [h1]; simp⟩
        obtain ⟨mp, mc, hmv⟩ := hn
        rw [hmv] at d4
        clear hmv hT
        go_wp2
        obtain ⟨wo, hwo⟩ : ∃ wo, wo = wr := ⟨_, rfl⟩
        subst hwo
        go_loopg [8] 1 (fun z i wr => i = .int .i64 0 ∧ wr = wo)
        case atStart => exact ⟨rfl, rfl⟩
        case round =>
          obtain ⟨rfl, hwr⟩ := hrel
          have hwr2 := hwr.symm
          subst hwr2
          clear hwr
          go_wp2
          go_loopg [11] 1 (fun z i wr => i = .int .i64 0 ∧ wr = wo)
          case atStart => exact ⟨rfl, rfl⟩
          case round =>
            obtain ⟨rfl, hwr⟩ := hrel
            have hwr2 := hwr.symm
            subst hwr2
            clear hwr
            go_wp2
            go_ret
            exact ⟨rfl, unhide HB⟩

end Go.Proofs.Ytgpplekabohneaa.B0
