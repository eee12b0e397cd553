/- 'table' of the statement's world: a list of mappings (an empty one) came out; its owner appends to it, with a mark. -/
import Derived.Test.YtgpplekabohneaaHd
import Derived.Test.YtgpplekabohneaaHm
namespace Go.Proofs.Ytgpplekabohneaa.B0
open Go.RowKit

attribute [local go_sem ↓] Go.wp_at_zero Go.wp_at_succ

theorem info43 : (Try.prog.info? 43).map (fun i => (i.zero, i.size, i.bytes)) = some (some (.slice none 0 0), 1, 24) := by kernel_rfl
theorem info3 : (Try.prog.info? 3).map (fun i => (i.zero, i.size, i.bytes)) = some (some (.int .i64 0), 1, 8) := by kernel_rfl

section
variable {W w5 : World} {B wb : Nat} {bs : List (Nat × Nat × List Ten)} {bv mv zv l : Value} {ys nw : List Value} {cs : List Nat} {c kz kl g cap : Nat}

/-- the count goes up by one -/
theorem TabInv.count (h : TabInv W B wb bs bv mv zv l ys [] cs c 0 0) :
    TabInv (W.setCell ⟨wb, 10, none⟩ (.int .i64 ((c : Int) + 1))) B wb bs bv mv zv l ys [] cs (c + 1) 0 0 ∧ Below B W (W.setCell ⟨wb, 10, none⟩ (.int .i64 ((c : Int) + 1))) := by
  have hwb := (Array.getElem?_eq_some_iff.1 h.blk).1
  have e0 : ∀ (k : Nat), k ≠ wb → (W.setCell ⟨wb, 10, none⟩ (.int .i64 ((c : Int) + 1))).heap[k]? = W.heap[k]? := fun k h2 => Below.heap_setCell W _ _ k h2
  have hs6 : (W.setCell ⟨wb, 10, none⟩ (.int .i64 ((c : Int) + 1))).heap.size = W.heap.size := by simp [World.setCell]
  have hkeep : ∀ (k : Nat), Free wb bv mv zv l k → k < W.heap.size → (W.setCell ⟨wb, 10, none⟩ (.int .i64 ((c : Int) + 1))).heap[k]? = W.heap[k]? := fun k hf _ => e0 k hf.1
  refine ⟨⟨?_, h.base, ?_, ?_, ?_, ?_, h.len, h.nb, h.wbv, h.wmv, h.wzv, h.wlv, h.bm, h.bz, h.bl, h.mz, h.ml, h.zl, ?_, ?_, ?_, ?_, fun x hx => Nat.le_succ_of_le (h.small x hx)⟩, (Below.refl _ _).setCell h.base _⟩
  · simp [World.setCell, Array.getElem?_modify, h.blk, wcells]
  · exact ownsRow_of_block h.bown (fun k hk => e0 k (fun e => h.wbv (by rw [hk, e])))
  · exact ownsRow_of_block h.mown (fun k hk => e0 k (fun e => h.wmv (by rw [hk, e])))
  · have := ownsRow_of_block h.zown (fun k hk => e0 k (fun e => h.wzv (by rw [hk, e])))
    simpa using this
  · exact ownsRow_of_block h.lown (fun k hk => e0 k (fun e => h.wlv (by rw [hk, e])))
  · exact fun x hx => (h.pboxes x hx).keep (by rw [hs6]; exact Nat.le_refl _) (fun _ h _ => h) hkeep
  · exact fun x hx => (h.rboxes x hx).keep (by rw [hs6]; exact Nat.le_refl _) (fun _ h _ => h) hkeep
  · exact fun i h1 h2 => (h.marks i h1 h2).keep (Nat.le_refl _) (by rw [hs6]; exact Nat.le_refl _) (fun _ h _ => h) hkeep
  · simp

/-- the cells that the walk reads -/
theorem TabInv.cells (h : TabInv W B wb bs bv mv zv l ys nw cs c kz kl) :
    W.cell? ⟨wb, 0, none⟩ = some bv ∧ W.cell? ⟨wb, 4, none⟩ = some mv ∧ W.cell? ⟨wb, 5, none⟩ = some zv ∧ W.cell? ⟨wb, 10, none⟩ = some (.int .i64 c) ∧ ∀ o, W.frozen? ⟨wb, o, none⟩ = false := by
  refine ⟨?_, ?_, ?_, ?_, fun o => ?_⟩
  · simp [World.cell?, h.blk, wcells]
  · simp [World.cell?, h.blk, wcells]
  · simp [World.cell?, h.blk, wcells]
  · simp [World.cell?, h.blk, wcells]
  · simp [World.frozen?, h.blk]

theorem TabInv.lform (h : TabInv W B wb bs bv mv zv l ys nw cs c kz kl) : ∃ lp cap, l = .slice lp kl cap := by
  rcases h.lown.2 with ⟨h1, h2⟩ | ⟨g, cap, cur, h1, _⟩
  · exact ⟨none, 0, by rw [h1, h2]⟩
  · exact ⟨_, cap, h1⟩
end

/-- what stands between two rounds of the last loop of 'table' -/
def TabRel (w : World) (B wb : Nat) (bs : List (Nat × Nat × List Ten)) (bv : Value) (ys : List Value) (cs : List Nat) (c xb k : Nat) (l : Value) (wr : World) : Prop :=
  ∃ mv zv nw, nw.length = k ∧ TabInv wr B wb bs bv mv zv l ys nw cs c k k ∧ wr.heap[xb]? = some (.cells (markCells c).toArray 52 (0, 0)) ∧ Free wb bv mv zv l xb ∧ Below B w wr

theorem inv_of_tab {W : World} {B wb : Nat} {bs : List (Nat × Nat × List Ten)} {bv mv zv l : Value} {ys nw : List Value} {cs : List Nat} {c : Nat} (h : TabInv W B wb bs bv mv zv l ys nw cs (c + 1) 4 4) (hn : nw.length = 4) (hfew : ys.length ≤ 4 * c) :
    Inv W B wb bs bv mv zv (ys ++ nw) (cs ++ List.replicate 4 (c + 1)) (c + 1) := by
  have hfree : ∀ k, Free wb bv mv zv l k → k < W.heap.size → Free wb bv mv zv nilS k := fun k hf _ => ⟨hf.1, hf.2.1, hf.2.2.1, hf.2.2.2.1, by simp [nilS, Value.ownBlock]⟩
  have hnil : ∀ (v : Value), Dis v nilS := fun v k _ e => by simp [nilS, Value.ownBlock] at e
  have hlen : (ys ++ nw).length = ys.length + 4 := by simp [hn]
  refine ⟨⟨h.blk, h.base, h.bown, ?_, ?_, World.ownsRow_nil _ _ _ _, by simp [h.len, hn], h.nb, h.wbv, h.wmv, h.wzv, by simp [nilS, Value.ownBlock], h.bm, h.bz, hnil _, h.mz, hnil _, hnil _, ?_, ?_, ?_, by simp, ?_⟩, by rw [hlen]; omega⟩
  · have := h.mown
    simpa using this
  · have := h.zown
    rw [hlen]
    simpa using this
  · exact fun x hx => (h.pboxes x hx).keep (Nat.le_refl _) hfree (fun _ _ _ => rfl)
  · exact fun x hx => (h.rboxes x hx).keep (Nat.le_refl _) hfree (fun _ _ _ => rfl)
  · intro i h1 h2
    by_cases hi : i < ys.length
    · rw [List.getElem_append_left hi, List.getElem_append_left (by rw [h.len]; exact hi)]
      exact (h.marks i hi (by rw [h.len]; exact hi)).keep (Nat.le_refl _) (Nat.le_refl _) hfree (fun _ _ _ => rfl)
    · rw [List.getElem_append_right (by omega), List.getElem_append_right (by rw [h.len]; omega), List.getElem_replicate]
      exact h.news _ (List.getElem_mem _)
  · intro x hx
    rcases List.mem_append.1 hx with hx | hx
    · exact h.small x hx
    · exact Nat.le_of_eq (List.eq_of_mem_replicate hx)

set_option maxRecDepth 100000 in
set_option maxHeartbeats 1000000 in
theorem wtable_any (w : World) (B wb : Nat) (bs : List (Nat × Nat × List Ten)) (bv mv zv : Value) (ys : List Value) (cs : List Nat) (c : Nat) (lp : Option Addr) (l0 : Nat)
    (h : TabInv w B wb bs bv mv zv (.slice lp 0 l0) ys [] cs c 0 0) (hfew : ys.length ≤ 4 * c) (hc : c ≤ 1760000000000) :
    Calls Try.prog 57 #[.pointer (some ⟨wb, 0, none⟩), .slice lp 0 l0] w fun e w' => e = .returned (.tuple #[]) ∧ Below B w w' ∧ ∃ mv' zv' ys' cs', Inv w' B wb bs bv mv' zv' ys' cs' (c + 1) := by
  obtain ⟨-, -, -, c10, hfz⟩ := h.cells
  have f10 := hfz 10
  have H := hide h
  clear h hfz
  go_enter Try.func57, Try.ntmps57
  go_wp2
  go_loopg [4] 1 (fun z i wr => i = .int .i64 0 ∧ wr = w)
  case atStart => exact ⟨rfl, rfl⟩
  case round =>
    obtain ⟨rfl, hwr⟩ := hrel
    have hwr2 := hwr.symm
    subst hwr2
    clear hwr
    go_wp2
    obtain ⟨h1, hb1⟩ := (unhide H).count
    obtain ⟨-, -, -, d10, -⟩ := h1.cells
    clear c10 f10
    generalize w.setCell ⟨wb, 10, none⟩ (Value.int IntKind.i64 ((c : Int) + 1)) = w1 at *
    have H1 := hide h1
    have HB1 := hide hb1
    have n1 := World.new_ne w1 _ d10
    rw [show ((c + 1 : Nat) : Int) = (c : Int) + 1 from by omega] at d10
    clear h1 hb1
    have hwrap : IntKind.i64.wrap (-((c : Int) + 1)) = -((c : Int) + 1) := by rw [IntKind.wrap_i64]; omega
    go_region_held3 (fun w' => w'.cell? ⟨wb, 10, none⟩ = some (.int .i64 ((c : Int) + 1))) (go_keep) (fail)
    clear hwrap d10 n1
    go_wp2
    obtain ⟨mk, hmk⟩ : ∃ mk, mk = w1.heap.size := ⟨_, rfl⟩
    have HR : Hid (TabRel w B wb bs bv ys cs (c + 1) mk 0 (.slice lp 0 l0) (w1.alloc (Obj.cells #[Value.int IntKind.i64 (-((c : Int) + 1)), Value.int IntKind.i64 0, Value.int IntKind.i64 0, Value.int IntKind.i64 ((c : Int) + 1), Value.slice none 0 0, Value.int IntKind.i64 0, Value.int IntKind.i64 0] 52)).drew) := by
      have h1 := unhide H1
      have hlt : ∀ (v : Value) (base e size n : Nat) (xs : List Value), w1.ownsRow base e size v n xs → v.ownBlock ≠ some mk := fun v base e size n xs ho ee => by have := (ho.lt mk ee).2; omega
      refine ⟨mv, zv, [], rfl, h1.below (((Below.refl _ _).alloc (Nat.le_refl _) _).drew), ?_, ⟨?_, hlt _ _ _ _ _ _ h1.bown, hlt _ _ _ _ _ _ h1.mown, hlt _ _ _ _ _ _ h1.zown, hlt _ _ _ _ _ _ h1.lown⟩, ?_⟩
      · show (w1.alloc _).heap[mk]? = _
        rw [blkN w1 _ mk hmk]
        simp [markCells]
      · have := (Array.getElem?_eq_some_iff.1 h1.blk).1
        omega
      · exact ((unhide HB1).alloc (by have := (Array.getElem?_eq_some_iff.1 h1.blk).1; have := h1.base; omega) _).drew
    rw [← hmk]
    generalize (w1.alloc (Obj.cells #[Value.int IntKind.i64 (-((c : Int) + 1)), Value.int IntKind.i64 0, Value.int IntKind.i64 0, Value.int IntKind.i64 ((c : Int) + 1), Value.slice none 0 0, Value.int IntKind.i64 0, Value.int IntKind.i64 0] 52)).drew = w2 at *
    clear H1 HB1 hmk
    go_loopg [6] 1 (fun z i wr => i = .int .i64 0 ∧ wr = w2)
    case atStart => exact ⟨rfl, rfl⟩
    case round =>
      obtain ⟨rfl, hw2⟩ := hrel
      rw [← hw2] at HR
      clear hw2
      go_wp2
      go_loopg [1, 7] 4 (fun z l i wr => ∃ k : Nat, k ≤ 4 ∧ z = 4 - k ∧ i = .int .i64 k ∧ TabRel w B wb bs bv ys cs (c + 1) mk k l wr)
      case atStart => exact ⟨0, by omega, rfl, rfl, unhide HR⟩
      case round =>
        obtain ⟨k, hk, hz, rfl, hrel⟩ := hrel
        have HZ := hide hz
        clear hz HR
        by_cases hk4 : k < 4
        · obtain ⟨mv, zv, nw, hnw, hT, hxb, hfr, hbw⟩ := hrel
          obtain ⟨lq, lc, rfl⟩ := hT.lform
          obtain ⟨-, c4, c5, c10, hfz⟩ := hT.cells
          have hys : ys.length + nw.length + 1 ≤ 7100000000000 := by omega
          have hwbl := (Array.getElem?_eq_some_iff.1 hT.blk).1
          have hBw : B ≤ wr.heap.size := by have := hT.base; omega
          have hxl := (Array.getElem?_eq_some_iff.1 hxb).1
          have f4 := hfz 4
          clear c5 c10 hfz
          obtain ⟨i0, hi, hz0, hz1, hz2⟩ := info_parts info43
          have HI := hide (And.intro hi (And.intro hz0 (And.intro hz1 hz2)))
          have HWM := hide hT.wmv
          have HM := hide (hT.mown.alloc (.cells #[.slice lq k lc] 43))
          have HT := hide hT
          have HX := hide hxb
          have HF := hide hfr
          have HBW := hide hbw
          have HNW := hide hnw
          clear hi hz0 hz1 hz2 hT hxb hfr hbw hnw
          go_wp2_with
            ((at_builtin; refine wpList_append_y _ rfl _ _ _ rfl B 43 i0 _ 1 24 Try.underlying66 (unhide HI).1 (unhide HI).2.1 (unhide HI).2.2.1 (unhide HI).2.2.2 rfl mv (ys.length + nw.length) (ys ++ nw) rfl (unhide HM) ⟨wr.heap.size, 0, none⟩ 1 [.slice lq k lc] rfl rfl (World.news_of_block (by exact blkN wr _ _ rfl)) (by simp [Value.oneCell']) (by unfold maxLen; omega) (by omega) (by simp; omega) ?_; intro g cap5 w5 hown5 hgr5;
              have q5 : w5.heap[wb]? = wr.heap[wb]? := (kept_x hgr5 (by simp; omega) (unhide HWM)).trans (Below.heap_alloc wr _ wb hwbl);
              have c45 := (World.cell?_of_block (a := ⟨wb, 4, none⟩) q5).trans c4;
              have f45 := (World.frozen?_of_block (a := ⟨wb, 4, none⟩) q5).trans f4;
              have HO5 := hide hown5; have HG5 := hide hgr5; clear q5 hown5 hgr5))
          obtain ⟨hT6, hb6⟩ := ((unhide HT).below ((Below.refl _ _).alloc (Nat.le_refl _) (.cells #[.slice lq k lc] 43))).stepM (unhide HO5) (unhide HG5)
          have hx6 : (w5.setCell ⟨wb, 4, none⟩ (Value.slice (some { block := g, off := 0 }) (ys.length + nw.length + 1) cap5)).heap[mk]? = some (.cells (markCells (c + 1)).toArray 52 (0, 0)) :=
            (Below.heap_setCell w5 _ _ mk (unhide HF).1).trans ((kept_x (unhide HG5) (by simp; omega) (unhide HF).2.2.1).trans (blkA (unhide HX)))
          have hf6 : Free wb bv (Value.slice (some { block := g, off := 0 }) (ys.length + nw.length + 1) cap5) zv (Value.slice lq k lc) mk :=
            ⟨(unhide HF).1, (unhide HF).2.1, fun e => new_x (unhide HG5) (by simp; omega) (unhide HF).2.2.1 (by simpa [Value.ownBlock] using e), (unhide HF).2.2.2⟩
          have hbw6 := ((unhide HBW).alloc hBw (.cells #[.slice lq k lc] 43)).trans hb6
          clear HX HF HBW HM HWM HT HO5 HG5 HI c4 f4 c45 f45 hb6 hwbl hxl
          generalize w5.setCell ⟨wb, 4, none⟩ (Value.slice (some { block := g, off := 0 }) (ys.length + nw.length + 1) cap5) = w6 at *
          generalize hmv6 : Value.slice (some { block := g, off := 0 }) (ys.length + nw.length + 1) cap5 = mv6 at hT6 hf6
          clear hmv6
          obtain ⟨-, -, c5, c10, hfz⟩ := hT6.cells
          rw [show ((c + 1 : Nat) : Int) = (c : Int) + 1 from by omega] at c10
          have hwbl := (Array.getElem?_eq_some_iff.1 hT6.blk).1
          have hB6 : B ≤ w6.heap.size := by have := hT6.base; omega
          have hxl := (Array.getElem?_eq_some_iff.1 hx6).1
          have f5 := hfz 5
          have ca5 : ∀ X, (w6.alloc X).cell? ⟨wb, 5, none⟩ = some zv := fun X => cellA c5
          have ca10 : ∀ X, (w6.alloc X).cell? ⟨wb, 10, none⟩ = some (.int .i64 ((c : Int) + 1)) := fun X => cellA c10
          obtain ⟨i0, hi, hz0, hz1, hz2⟩ := info_parts info3
          have HI := hide (And.intro hi (And.intro hz0 (And.intro hz1 hz2)))
          have HWZ := hide hT6.wzv
          have HM := hide (hT6.zown.alloc (.cells #[.int .i64 ((c : Int) + 1)] 3))
          have HT := hide hT6
          have HX := hide hx6
          have HF := hide hf6
          have HBW := hide hbw6
          clear hi hz0 hz1 hz2 hT6 hx6 hf6 hbw6 hfz
          go_region_law
            ((refine step_append_x _ (by rfl) _ _ _ (by rfl) B 3 i0 _ 1 8 Try.underlying50 (unhide HI).1 (unhide HI).2.1 (unhide HI).2.2.1 (unhide HI).2.2.2 rfl (by omega) zv (ys.length + k) _ (by rfl) (by exact unhide HM) ⟨w6.heap.size, 0, none⟩ 1 1 [.int .i64 ((c : Int) + 1)] (by rfl) (by rfl) (World.news_of_block (by exact blkN w6 _ _ rfl)) (by simp [Value.oneCell']) (by omega) (by unfold maxLen; have := unhide HNW; omega) (by have := unhide HNW; omega) (by simp; omega) ?_; intro g7 cap7 w7 hown7 hgr7;
              have q7 : w7.heap[wb]? = w6.heap[wb]? := (kept_x hgr7 (by simp; omega) (unhide HWZ)).trans (Below.heap_alloc w6 _ wb hwbl);
              have c57 := (World.cell?_of_block (a := ⟨wb, 5, none⟩) q7).trans c5;
              have f57 := (World.frozen?_of_block (a := ⟨wb, 5, none⟩) q7).trans f5;
              have HO7 := hide hown7; have HG7 := hide hgr7; clear q7 hown7 hgr7))
          all_goals
            have hO7 := unhide HO7
            rw [← show ((c + 1 : Nat) : Int) = (c : Int) + 1 from by omega] at hO7
            obtain ⟨hT8, hb8⟩ := ((unhide HT).below (((Below.refl _ _).alloc (Nat.le_refl _) (.cells #[.int .i64 ((c : Int) + 1)] 3)).drew)).stepZ hO7 (unhide HG7)
            have hx8 : (w7.setCell ⟨wb, 5, none⟩ (Value.slice (some { block := g7, off := 0 }) (ys.length + k + 1) cap7)).heap[mk]? = some (.cells (markCells (c + 1)).toArray 52 (0, 0)) :=
              (Below.heap_setCell w7 _ _ mk (unhide HF).1).trans ((kept_x (unhide HG7) (by simp; omega) (unhide HF).2.2.2.1).trans (blkA (unhide HX)))
            have hf8 : Free wb bv mv6 (Value.slice (some { block := g7, off := 0 }) (ys.length + k + 1) cap7) (Value.slice lq k lc) mk :=
              ⟨(unhide HF).1, (unhide HF).2.1, (unhide HF).2.2.1, fun e => new_x (unhide HG7) (by simp; omega) (unhide HF).2.2.2.1 (by simpa [Value.ownBlock] using e), (unhide HF).2.2.2.2⟩
            have hbw8 := (((unhide HBW).alloc hB6 (.cells #[.int .i64 ((c : Int) + 1)] 3)).drew).trans hb8
            clear HX HF HBW HM HWZ HT HO7 HG7 HI c5 c10 f5 ca5 ca10 c57 f57 hb8 hwbl hxl hO7
            generalize w7.setCell ⟨wb, 5, none⟩ (Value.slice (some { block := g7, off := 0 }) (ys.length + k + 1) cap7) = w8 at *
            generalize hzv8 : Value.slice (some { block := g7, off := 0 }) (ys.length + k + 1) cap7 = zv8 at hT8 hf8
            clear hzv8
            have hB8 : B ≤ w8.heap.size := by have := hT8.base; have := (Array.getElem?_eq_some_iff.1 hT8.blk).1; omega
            have hxl := (Array.getElem?_eq_some_iff.1 hx8).1
            have e1 : ((c + 1 : Nat) : Int) = (c : Int) + 1 := by omega
            have m0 : w8.cell? ⟨mk, 0, none⟩ = some (.int .i64 (-((c : Int) + 1))) := by simp [World.cell?, hx8, markCells]
            have m1 : w8.cell? ⟨mk, 1, none⟩ = some (.int .i64 0) := by simp [World.cell?, hx8, markCells]
            have m2 : w8.cell? ⟨mk, 2, none⟩ = some (.int .i64 0) := by simp [World.cell?, hx8, markCells]
            have m3 : w8.cell? ⟨mk, 3, none⟩ = some (.int .i64 ((c : Int) + 1)) := by simp [World.cell?, hx8, markCells]
            have m4 : w8.cell? ⟨mk, 4, none⟩ = some (.slice none 0 0) := by simp [World.cell?, hx8, markCells]
            have m5 : w8.cell? ⟨mk, 5, none⟩ = some (.int .i64 0) := by simp [World.cell?, hx8, markCells]
            have m6 : w8.cell? ⟨mk, 6, none⟩ = some (.int .i64 0) := by simp [World.cell?, hx8, markCells]
            clear e1
            obtain ⟨i0, hi, hz0, hz1, hz2⟩ := info_parts info52
            have HI := hide (And.intro hi (And.intro hz0 (And.intro hz1 hz2)))
            have HM := hide (hT8.lown.alloc (.cells #[.int .i64 (-((c : Int) + 1)), .int .i64 0, .int .i64 0, .int .i64 ((c : Int) + 1), .slice none 0 0, .int .i64 0, .int .i64 0] 52))
            have HT := hide hT8
            have HX := hide hx8
            have HF := hide hf8
            have HBW := hide hbw8
            clear hi hz0 hz1 hz2 hT8 hx8 hf8 hbw8
            go_wp2_with
              ((at_builtin; refine wpList_append_x _ rfl _ _ _ rfl B 52 i0 _ 7 72 Try.underlying43 (unhide HI).1 (unhide HI).2.1 (unhide HI).2.2.1 (unhide HI).2.2.2 rfl (by omega) (.slice lq k lc) k _ rfl (unhide HM) ⟨w8.heap.size, 0, none⟩ 1 1 [.int .i64 (-((c : Int) + 1)), .int .i64 0, .int .i64 0, .int .i64 ((c : Int) + 1), .slice none 0 0, .int .i64 0, .int .i64 0] rfl rfl (World.news_of_block (by exact blkN w8 _ _ rfl)) (by simp [Value.oneCell']) (by omega) (by unfold maxLen; omega) (by omega) (by simp; omega) ?_; intro g9 cap9 w9 hown9 hgr9;
                have HO9 := hide hown9; have HG9 := hide hgr9; clear hown9 hgr9))
            go_roundg (4 - (k + 1))
            case measure => have := unhide HZ; omega
            case rel =>
              have hO9 := unhide HO9
              rw [← show ((c + 1 : Nat) : Int) = (c : Int) + 1 from by omega] at hO9
              obtain ⟨hT9, hb9⟩ := ((unhide HT).below ((Below.refl _ _).alloc (Nat.le_refl _) (.cells #[.int .i64 (-((c : Int) + 1)), .int .i64 0, .int .i64 0, .int .i64 ((c : Int) + 1), .slice none 0 0, .int .i64 0, .int .i64 0] 52))).stepL hO9 (unhide HG9)
              refine ⟨k + 1, by omega, rfl, by go_num, mv6, zv8, nw ++ [.slice lq k lc], by have := unhide HNW; simp [this], hT9, ?_, ?_, ?_⟩
              · exact (kept_x (unhide HG9) (by simp; omega) (unhide HF).2.2.2.2).trans (blkA (unhide HX))
              · exact ⟨(unhide HF).1, (unhide HF).2.1, (unhide HF).2.2.1, (unhide HF).2.2.2.1, fun e => new_x (unhide HG9) (by simp; omega) (unhide HF).2.2.2.2 (by simpa [Value.ownBlock] using e)⟩
              · exact ((unhide HBW).alloc hB8 _).trans hb9
        · have hk2 : k = 4 := by omega
          subst hk2
          have HREL := hide hrel
          clear hrel
          go_wp2
          go_end0
          obtain ⟨mv, zv, nw, hnw, hT, hxb, hfr, hbw⟩ := unhide HREL
          exact ⟨rfl, hbw, _, _, _, _, inv_of_tab hT hnw hfew⟩

end Go.Proofs.Ytgpplekabohneaa.B0
