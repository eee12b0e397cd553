/- 'step': one step of the kinds New, Table, Tick (or of none): true, and the world holds what it should. -/
import Derived.Test.YtgpplekabohneaaHi
namespace Go.Proofs.Ytgpplekabohneaa.B0
open Go.RowKit

attribute [local go_sem ↓] Go.wp_at_zero Go.wp_at_succ

/-- between two steps, whatever is in it -/
def Good (w : World) (B wb c : Nat) : Prop := ∃ bs bv mv zv ys cs, Inv w B wb bs bv mv zv ys cs c

theorem Good.below {w w' : World} {B wb c : Nat} (h : Good w B wb c) (hb : Below w.heap.size w w') : Good w' B wb c := by
  obtain ⟨bs, bv, mv, zv, ys, cs, h⟩ := h
  exact ⟨bs, bv, mv, zv, ys, cs, h.below hb⟩

def opV (kd on a b : Int) (tv pv : Value) : Value := .agg #[.int .i64 kd, .int .i64 on, .int .i64 a, .int .i64 b, tv, pv]

/-- which of n things the raw number c speaks of -/
def pk (c : Int) (n : Nat) : Nat := if c < 0 then (-(c + 1)).toNat % n else c.toNat % n

theorem pk_lt (c : Int) (n : Nat) (hn : 0 < n) : pk c n < n := by
  unfold pk
  split <;> exact Nat.mod_lt _ hn

theorem pick_eq (c : Int) (n : Nat) (w : World) (hc : -9223372036854775808 ≤ c) (hc' : c ≤ 9223372036854775807) (hn : 0 < n) (hn' : n ≤ 8) :
    Calls Try.prog 34 #[.int .i64 c, .int .i64 n] w fun e w' => e = .returned (.int .i64 (pk c n)) ∧ w' = w := by
  by_cases h1 : c < 0
  · have hq : Hid (-((c + 1).tmod n) = (pk c n : Int)) := by
      show -((c + 1).tmod n) = (pk c n : Int)
      unfold pk
      rw [if_pos h1]
      obtain ⟨m, hm⟩ := Int.eq_ofNat_of_zero_le (show 0 ≤ -(c + 1) by omega)
      have e : c + 1 = -(m : Int) := by omega
      rw [e, Int.neg_tmod, Int.neg_neg, Int.tmod_eq_emod_of_nonneg (by omega)]
      simp
    go_enter Try.func34, Try.ntmps34
    go_wp2
    go_ret
    exact ⟨by rw [hq.out]; rfl, rfl⟩
  · have hq : Hid (c % (n : Int) = (pk c n : Int)) := by
      show c % (n : Int) = (pk c n : Int)
      unfold pk
      rw [if_neg h1]
      obtain ⟨m, hm⟩ := Int.eq_ofNat_of_zero_le (show 0 ≤ c by omega)
      rw [hm]
      simp
    go_enter Try.func34, Try.ntmps34
    go_wp2
    go_ret
    exact ⟨by rw [hq.out]; rfl, rfl⟩

theorem boxCells_at : ∀ (bs : List (Nat × Nat × List Ten)) (i : Nat) (h : i < bs.length), (boxCells bs)[i * 2]? = some (.pointer (some ⟨bs[i].1, 0, none⟩)) ∧ (boxCells bs)[i * 2 + 1]? = some (.pointer (some ⟨bs[i].2.1, 0, none⟩))
  | x :: r, 0, _ => ⟨rfl, rfl⟩
  | x :: r, i + 1, h => by
    have := boxCells_at r i (by simpa using h)
    have e : boxCells (x :: r) = .pointer (some ⟨x.1, 0, none⟩) :: .pointer (some ⟨x.2.1, 0, none⟩) :: boxCells r := rfl
    rw [e, show (i + 1) * 2 = i * 2 + 1 + 1 by omega]
    simpa using this

set_option maxRecDepth 100000 in
set_option maxHeartbeats 1000000 in
/-- a step of the kind 1 -/
theorem step_new (w : World) (B wb c : Nat) (h : Good w B wb c) (on a b : Int) (tp pp : Option Addr) (n tc pn pc : Nat) (ts : List Ten) (hS : TenArg w (.slice tp n tc) ts) (hn : n = ts.length) (hn2 : n ≤ 4398046511104) :
    Calls Try.prog 24 #[.pointer (some ⟨wb, 0, none⟩), .agg #[.int .i64 1, .int .i64 on, .int .i64 a, .int .i64 b, .slice tp n tc, .slice pp pn pc]] w fun e w' =>
      e = .returned (.bool true) ∧ Below B w w' ∧ Good w' B wb c := by
  obtain ⟨bs, bv, mv, zv, ys, cs, hI⟩ := h
  have hBw : B ≤ w.heap.size := by have := hI.1.base; have := (Array.getElem?_eq_some_iff.1 hI.1.blk).1; omega
  have hb1 : ∀ X, Below w.heap.size w (w.alloc X) := fun X => (Below.refl _ _).alloc (Nat.le_refl _) X
  have HC := hide (fun X => begins_any (w.alloc X) B wb bs bv mv zv ys cs c (hI.below (hb1 X)) 1 on a b tp pp n tc pn pc ts (hS.keep (hb1 X).size (fun k hk => (hb1 X).block k hk)) hn hn2)
  have HB1 := hide hb1
  clear hI hS hn hb1
  go_enter Try.func24, Try.ntmps24
  go_wp2_with fail
  refine (unhide HC _).mono ?_
  rintro e w' ⟨rfl, hb, bs', bv', hinv⟩
  have HB := hide hb
  have HI := hide hinv
  clear hb hinv HC
  go_wp2
  go_ret
  exact ⟨rfl, ((unhide HB1 _).mono hBw).trans (unhide HB), _, _, _, _, _, _, unhide HI⟩

set_option maxRecDepth 100000 in
set_option maxHeartbeats 1000000 in
/-- a step that is none of New -/
theorem step_other (w : World) (B wb c : Nat) (h : Good w B wb c) (hc : c ≤ 1760000000000) (kd on a b : Int) (hon : -9223372036854775808 ≤ on ∧ on ≤ 9223372036854775807) (tv pv : Option Addr) (tn tc pn pc : Nat) (hk1 : (kd == 1) = false) (hk3 : kd ≤ 3) :
    Calls Try.prog 24 #[.pointer (some ⟨wb, 0, none⟩), .agg #[.int .i64 kd, .int .i64 on, .int .i64 a, .int .i64 b, .slice tv tn tc, .slice pv pn pc]] w fun e w' =>
      e = .returned (.bool true) ∧ Below B w w' ∧ ∃ c', c' ≤ c + 1 ∧ Good w' B wb c' := by
  obtain ⟨bs, bv, mv, zv, ys, cs, hI⟩ := h
  have hBw : B ≤ w.heap.size := by have := hI.1.base; have := (Array.getElem?_eq_some_iff.1 hI.1.blk).1; omega
  obtain ⟨c0, -, -, -, -⟩ := hI.1.cells
  have HI := hide hI
  by_cases hb0 : bs.length = 0
  · have hbv : ∃ bp bc, bv = .slice bp 0 bc := by
      rcases hI.1.bown.2 with ⟨h1, _⟩ | ⟨g, cap, cur, h1, _⟩
      · exact ⟨none, 0, h1⟩
      · exact ⟨some ⟨g, 0, none⟩, cap, by rw [h1, hb0]⟩
    obtain ⟨bp, bc, hbv⟩ := hbv
    rw [hbv] at c0
    have ca : ∀ X, (w.alloc X).cell? ⟨wb, 0, none⟩ = some (.slice bp 0 bc) := fun X => cellA c0
    clear hI hbv hb0
    go_enter Try.func24, Try.ntmps24
    go_wp2
    go_ret
    exact ⟨rfl, (Below.refl _ _).alloc hBw _, c, by omega, _, _, _, _, _, _, (unhide HI).below ((Below.refl _ _).alloc (Nat.le_refl _) _)⟩
  · have hb8 := hI.1.nb
    obtain ⟨gb, bc, hbv, hbc, hbm, hbcell⟩ : ∃ gb bc, bv = .slice (some ⟨gb, 0, none⟩) bs.length bc ∧ bs.length ≤ bc ∧ bc ≤ maxLen ∧ ∀ (j : Nat) (u : Value), (boxCells bs)[j]? = some u → w.cell? ⟨gb, j, none⟩ = some u := by
      rcases hI.1.bown.2 with ⟨_, h2⟩ | ⟨g, cap, cur, h1, _, _, h4, h5, _⟩
      · exact absurd h2 hb0
      · refine ⟨g, cap, h1, h4, h5, fun j u hu => ?_⟩
        have := hI.1.bown.cells (g := g) (by rw [h1]; rfl) j u hu
        have hadd : (⟨g, 0, none⟩ : Addr).add j = ⟨g, j, none⟩ := by unfold Addr.add; split <;> simp_all
        rwa [hadd] at this
    rw [hbv] at c0
    have ca : ∀ X, (w.alloc X).cell? ⟨wb, 0, none⟩ = some (.slice (some ⟨gb, 0, none⟩) bs.length bc) := fun X => cellA c0
    have HBC := hide hbcell
    have hb0' : ((bs.length : Int) == 0) = false := by rw [beq_eq_false_iff_ne]; omega
    unfold maxLen at hbm
    clear hI hbv hbcell
    go_enter Try.func24, Try.ntmps24
    go_wp2
    have hI1 := (unhide HI).below ((Below.refl w.heap.size w).alloc (Nat.le_refl _) (Obj.cells #[Value.int IntKind.i64 kd, Value.int IntKind.i64 on, Value.int IntKind.i64 a, Value.int IntKind.i64 b, Value.slice tv tn tc, Value.slice pv pn pc] 76))
    have hB1 : Below B w (w.alloc (Obj.cells #[Value.int IntKind.i64 kd, Value.int IntKind.i64 on, Value.int IntKind.i64 a, Value.int IntKind.i64 b, Value.slice tv tn tc, Value.slice pv pn pc] 76)) := (Below.refl B w).alloc hBw _
    have a0 := ca (Obj.cells #[Value.int IntKind.i64 kd, Value.int IntKind.i64 on, Value.int IntKind.i64 a, Value.int IntKind.i64 b, Value.slice tv tn tc, Value.slice pv pn pc] 76)
    have ob : (w.alloc (Obj.cells #[Value.int IntKind.i64 kd, Value.int IntKind.i64 on, Value.int IntKind.i64 a, Value.int IntKind.i64 b, Value.slice tv tn tc, Value.slice pv pn pc] 76)).heap[w.heap.size]? = some (Obj.cells #[Value.int IntKind.i64 kd, Value.int IntKind.i64 on, Value.int IntKind.i64 a, Value.int IntKind.i64 b, Value.slice tv tn tc, Value.slice pv pn pc] 76 (0, 0)) := blkN _ _ _ rfl
    have hj : pk on bs.length < bs.length := pk_lt on bs.length (by omega)
    have hPK := hide (fun W => pick_eq on bs.length W hon.1 hon.2 (by omega) hb8)
    have hp0 : (w.alloc (Obj.cells #[Value.int IntKind.i64 kd, Value.int IntKind.i64 on, Value.int IntKind.i64 a, Value.int IntKind.i64 b, Value.slice tv tn tc, Value.slice pv pn pc] 76)).cell? ⟨gb, pk on bs.length * 2, none⟩ = some (.pointer (some ⟨bs[pk on bs.length].1, 0, none⟩)) := cellA (unhide HBC _ _ (boxCells_at bs _ hj).1)
    have hp1 : (w.alloc (Obj.cells #[Value.int IntKind.i64 kd, Value.int IntKind.i64 on, Value.int IntKind.i64 a, Value.int IntKind.i64 b, Value.slice tv tn tc, Value.slice pv pn pc] 76)).cell? ⟨gb, pk on bs.length * 2 + 1, none⟩ = some (.pointer (some ⟨bs[pk on bs.length].2.1, 0, none⟩)) := cellA (unhide HBC _ _ (boxCells_at bs _ hj).2)
    have hmem : bs[pk on bs.length] ∈ bs := List.getElem_mem hj
    generalize w.alloc (Obj.cells #[Value.int IntKind.i64 kd, Value.int IntKind.i64 on, Value.int IntKind.i64 a, Value.int IntKind.i64 b, Value.slice tv tn tc, Value.slice pv pn pc] 76) = w1 at *
    generalize bs[pk on bs.length] = x at *
    obtain ⟨p, q, ts⟩ := x
    simp only at hp0 hp1
    generalize pk on bs.length = j at *
    have hj2 : (j : Int) < (bs.length : Int) := by omega
    have hj0 : (0 : Int) ≤ (j : Int) := by omega
    have o0 : w1.cell? ⟨w.heap.size, 0, none⟩ = some (.int .i64 kd) := by simp [World.cell?, ob]
    have o1 : w1.cell? ⟨w.heap.size, 1, none⟩ = some (.int .i64 on) := by simp [World.cell?, ob]
    have o2 : w1.cell? ⟨w.heap.size, 2, none⟩ = some (.int .i64 a) := by simp [World.cell?, ob]
    have n1 := World.new_ne w1 _ a0
    have n2 := World.new_ne w1 _ o1
    have n3 := World.new_ne w1 _ hp0
    have n4 := World.new_ne w1 _ hp1
    have HI1 := hide hI1
    have HB1 := hide hB1
    have HMEM := hide hmem
    clear hI1 hB1 ob ca c0 HBC HI hmem
    go_region_held3 (fun w' => w'.cell? ⟨wb, 0, none⟩ = some (.slice (some ⟨gb, 0, none⟩) bs.length bc) ∧ w'.cell? ⟨w.heap.size, 1, none⟩ = some (.int .i64 on) ∧ w'.cell? ⟨gb, j * 2, none⟩ = some (.pointer (some ⟨p, 0, none⟩)) ∧ w'.cell? ⟨gb, j * 2 + 1, none⟩ = some (.pointer (some ⟨q, 0, none⟩))) (go_keep)
      ((go_at_call 34; refine (unhide hPK _).mono ?_; rintro e w2 ⟨rfl, rfl⟩))
    all_goals
      have hbx : Below w1.heap.size w1 (w1.alloc (Obj.cells #[Value.pointer (some { block := p, off := 0 }), Value.pointer (some { block := q, off := 0 })] 94)).drew := ((Below.refl _ _).alloc (Nat.le_refl _) _).drew
      have hI3 := (unhide HI1).below hbx
      have hB1w : B ≤ w1.heap.size := by have := hI3.1.base; have := (Array.getElem?_eq_some_iff.1 (unhide HI1).1.blk).1; omega
      have HB3 := hide ((unhide HB1).trans (hbx.mono hB1w))
      have e0 := (hbx.cell (p := ⟨w.heap.size, 0, none⟩) (World.block_lt_of_cell? _ _ o0)).trans o0
      have e2 := (hbx.cell (p := ⟨w.heap.size, 2, none⟩) (World.block_lt_of_cell? _ _ o2)).trans o2
      have x0 : (w1.alloc (Obj.cells #[Value.pointer (some { block := p, off := 0 }), Value.pointer (some { block := q, off := 0 })] 94)).drew.cell? ⟨w1.heap.size, 0, none⟩ = some (.pointer (some ⟨p, 0, none⟩)) := by simp
      have x1 : (w1.alloc (Obj.cells #[Value.pointer (some { block := p, off := 0 }), Value.pointer (some { block := q, off := 0 })] 94)).drew.cell? ⟨w1.heap.size, 1, none⟩ = some (.pointer (some ⟨q, 0, none⟩)) := by simp
      clear hbx hB1w o0 o1 o2 n1 n2 n3 n4 a0 hp0 hp1 hPK HI1 HB1
      generalize (w1.alloc (Obj.cells #[Value.pointer (some { block := p, off := 0 }), Value.pointer (some { block := q, off := 0 })] 94)).drew = w3 at *
      have HI3 := hide hI3
      have hk4 : (kd == 4) = false := by rw [beq_eq_false_iff_ne]; omega
      have hk5 : (kd == 5) = false := by rw [beq_eq_false_iff_ne]; omega
      have hk6 : (kd == 6) = false := by rw [beq_eq_false_iff_ne]; omega
      by_cases hk2 : kd = 2
      · subst hk2
        have HC := hide (tells_any w3 B wb bs bv mv zv ys cs c hI3 hc p q ts (unhide HMEM) a)
        clear hI3 hk1 hk3 hk4 hk5 hk6
        go_wp2_with fail
        refine (unhide HC).mono ?_
        rintro e w4 ⟨rfl, hb4, mv', zv', ys', cs', hinv⟩
        have HB4 := hide hb4
        have HI4 := hide hinv
        clear hb4 hinv HC
        go_wp2
        go_ret
        exact ⟨rfl, (unhide HB3).trans (unhide HB4), c + 1, by omega, _, _, _, _, _, _, unhide HI4⟩
      · have hk2' : (kd == 2) = false := by rw [beq_eq_false_iff_ne]; exact hk2
        clear hk2
        by_cases hkt : kd = 3
        · subst hkt
          obtain ⟨-, -, -, v, hq, -⟩ := hI3.1.rboxes _ (unhide HMEM)
          have HC := hide (tick_any p _ _ a w3 (hI3.1.pboxes _ (unhide HMEM)))
          have HQ := hide hq
          clear hI3 hk1 hk3 hk4 hk5 hk6 hk2' hq
          go_wp2_with fail
          refine (unhide HC).mono ?_
          rintro e w4 ⟨rfl, hb4⟩
          have e24 := (hb4.cell (p := ⟨w.heap.size, 2, none⟩) (World.block_lt_of_cell? _ _ e2)).trans e2
          have x14 := (hb4.cell (p := ⟨w1.heap.size, 1, none⟩) (World.block_lt_of_cell? _ _ x1)).trans x1
          have HR := hide (tickRef_any q v a w4 ((hb4.block q (Array.getElem?_eq_some_iff.1 (unhide HQ)).1).trans (unhide HQ)))
          have HI4 := hide ((unhide HI3).below hb4)
          have HB4 := hide ((unhide HB3).trans (hb4.mono (by have := (unhide HI3).1.base; have := (Array.getElem?_eq_some_iff.1 (unhide HI3).1.blk).1; omega)))
          clear HC hb4 e0 e2 x0 x1 HQ
          go_wp2_with fail
          refine (unhide HR).mono ?_
          rintro e w5 ⟨rfl, hb5⟩
          have HB5 := hide hb5
          clear hb5 HR
          generalize tickB a = tb at *
          go_wp2
          go_ret
          exact ⟨by simp, (unhide HB4).trans ((unhide HB5).mono (by have := (unhide HI4).1.base; have := (Array.getElem?_eq_some_iff.1 (unhide HI4).1.blk).1; omega)), c, by omega, _, _, _, _, _, _, (unhide HI4).below (unhide HB5)⟩
        · have hk3' : (kd == 3) = false := by rw [beq_eq_false_iff_ne]; exact hkt
          clear hI3 hkt
          go_wp2
          go_ret
          exact ⟨rfl, unhide HB3, c, by omega, _, _, _, _, _, _, unhide HI3⟩

end Go.Proofs.Ytgpplekabohneaa.B0
