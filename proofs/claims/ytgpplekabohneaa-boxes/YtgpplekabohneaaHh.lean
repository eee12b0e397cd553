/- A block of tenants: made, copied into, written over; a box more among the statement's boxes. -/
import Derived.Test.YtgpplekabohneaaHg
namespace Go.Proofs.Ytgpplekabohneaa.B0
open Go.RowKit

def zT : Ten := ⟨0, 0, 0, 0⟩
def m7 : Ten := ⟨-7, 0, 0, 0⟩

theorem tenCells_length (ts : List Ten) : (tenCells ts).length = ts.length * 4 := by
  induction ts with
  | nil => rfl
  | cons t r ih =>
    have e : tenCells (t :: r) = .int .i64 t.tag :: .int .i64 t.outer :: .int .i64 t.low :: .int .i64 t.high :: tenCells r := rfl
    rw [e]
    simp [ih]
    omega

theorem tenCells_append (a b : List Ten) : tenCells (a ++ b) = tenCells a ++ tenCells b := by simp [tenCells]

theorem tenCells_set : ∀ (ts : List Ten) (i : Nat) (t : Ten), i < ts.length →
    ((((tenCells ts).set (i * 4) (.int .i64 t.tag)).set (i * 4 + 1) (.int .i64 t.outer)).set (i * 4 + 2) (.int .i64 t.low)).set (i * 4 + 3) (.int .i64 t.high) = tenCells (ts.set i t)
  | _ :: r, 0, t, _ => rfl
  | a :: r, i + 1, t, h => by
    have ih := tenCells_set r i t (by simpa using h)
    have e : tenCells (a :: r) = .int .i64 a.tag :: .int .i64 a.outer :: .int .i64 a.low :: .int .i64 a.high :: tenCells r := rfl
    have e' : tenCells ((a :: r).set (i + 1) t) = .int .i64 a.tag :: .int .i64 a.outer :: .int .i64 a.low :: .int .i64 a.high :: tenCells (r.set i t) := rfl
    have e0 : (i + 1) * 4 = i * 4 + 1 + 1 + 1 + 1 := by omega
    rw [e, e', e0, ← ih]
    simp [List.set_cons_succ]

/-- a block of tenants -/
def TenBlock (w : World) (g : Nat) (tt : List Ten) : Prop := w.heap[g]? = some (.cells (tenCells tt).toArray 73 (0, 0))

theorem TenBlock.at {w : World} {g : Nat} {tt : List Ten} (h : TenBlock w g tt) : TenAt w g 0 tt := by
  intro i hi
  obtain ⟨q0, q1, q2, q3⟩ := tenCells_at tt i hi
  unfold TenBlock at h
  refine ⟨?_, ?_, ?_, ?_⟩ <;> simp [World.cell?, h, q0, q1, q2, q3]

theorem TenBlock.frozen {w : World} {g : Nat} {tt : List Ten} (h : TenBlock w g tt) (o : Nat) : w.frozen? ⟨g, o, none⟩ = false := by
  unfold TenBlock at h
  simp [World.frozen?, h]

theorem TenBlock.lt {w : World} {g : Nat} {tt : List Ten} (h : TenBlock w g tt) : g < w.heap.size := (Array.getElem?_eq_some_iff.1 h).1

theorem TenBlock.set {w : World} {g : Nat} {tt : List Ten} (h : TenBlock w g tt) {i : Nat} (hi : i < tt.length) (a b c d : Int) :
    TenBlock ((((w.setCell ⟨g, i * 4, none⟩ (.int .i64 a)).setCell ⟨g, i * 4 + 1, none⟩ (.int .i64 b)).setCell ⟨g, i * 4 + 2, none⟩ (.int .i64 c)).setCell ⟨g, i * 4 + 3, none⟩ (.int .i64 d)) g (tt.set i ⟨a, b, c, d⟩) := by
  unfold TenBlock at h ⊢
  rw [← tenCells_set tt i ⟨a, b, c, d⟩ hi]
  simp [World.setCell, Array.getElem?_modify, h]

theorem below_set4 {w : World} {B g : Nat} (hB : B ≤ g) (o0 o1 o2 o3 : Nat) (a b c d : Value) :
    Below B w ((((w.setCell ⟨g, o0, none⟩ a).setCell ⟨g, o1, none⟩ b).setCell ⟨g, o2, none⟩ c).setCell ⟨g, o3, none⟩ d) :=
  (((((Below.refl B w).setCell (p := ⟨g, o0, none⟩) hB a).setCell (p := ⟨g, o1, none⟩) hB b).setCell (p := ⟨g, o2, none⟩) hB c).setCell (p := ⟨g, o3, none⟩) hB d)

theorem tenCells_rep (n : Nat) : tenCells (List.replicate n zT) = List.replicate (n * 4) (.int .i64 0) := by
  induction n with
  | zero => rfl
  | succ n ih =>
    have e : tenCells (List.replicate (n + 1) zT) = .int .i64 0 :: .int .i64 0 :: .int .i64 0 :: .int .i64 0 :: tenCells (List.replicate n zT) := rfl
    rw [e, ih, show (n + 1) * 4 = n * 4 + 1 + 1 + 1 + 1 by omega]
    simp [List.replicate_succ]

theorem made_zero (k : Nat) : madeCells (Value.agg #[.int .i64 0, .int .i64 0, .int .i64 0, .int .i64 0]).cells k = (List.replicate k (Value.int .i64 0)).toArray := by
  unfold madeCells
  apply Array.ext
  · simp
  · intro i h1 h2
    have : ∀ j, j < 4 → (Value.agg #[.int .i64 0, .int .i64 0, .int .i64 0, .int .i64 0]).cells[j]! = Value.int .i64 0 := by
      intro j hj
      match j, hj with
      | 0, _ => rfl
      | 1, _ => rfl
      | 2, _ => rfl
      | 3, _ => rfl
    have e : (Value.agg #[.int .i64 0, .int .i64 0, .int .i64 0, .int .i64 0]).cells.size = 4 := rfl
    simp only [Array.getElem_map, Array.getElem_range, e]
    rw [this _ (Nat.mod_lt _ (by omega))]
    simp

/-- 'make([]api.Tenant, n)' -/
theorem run_makeT (w : World) (n : Nat) (hn : n ≤ 4400000000000) :
    ∃ w', (Instr.makeSlice 74 (.int .i64 n) (.int .i64 n)).run Try.prog w = .ok (.slice (some ⟨w.heap.size, 0, none⟩) n n) w' ∧ w' = w.alloc (.cells (tenCells (List.replicate n zT)).toArray 73) := by
  obtain ⟨i0, hi, hz0, hz1, hz2⟩ := info_parts info73
  have h := run_make (P := Try.prog) w 74 73 i0 _ Try.underlying74 hi hz0 .i64 .i64 n n (by omega) (Int.le_refl _) (by rw [hz2]; omega) (by omega)
  rw [hz1, made_zero] at h
  simp only [Int.toNat_natCast] at h
  exact ⟨_, h, by rw [tenCells_rep]⟩

/-- 'copy(all, tenants)', the first having room -/
theorem run_copyT (w : World) (ty : TypeId) (g cap : Nat) (S : Nat → Prop) (tv : Value) (ts : List Ten) (k : Nat) (hS : TenSl w S tv ts) (hg : TenBlock w g (List.replicate (ts.length + k) zT)) :
    ∃ v w', (Builtin.copy_ #[74, 74] ty #[.slice (some ⟨g, 0, none⟩) (ts.length + k) cap, tv]).run Try.prog w = .ok v w' ∧ TenBlock w' g (ts ++ List.replicate k zT) ∧ w.grownBy w' (some g) := by
  obtain ⟨i0, hi, hz0, hz1, hz2⟩ := info_parts info73
  rcases hS with ⟨rfl, rfl⟩ | ⟨b, off, scap, rfl, _, hc, hm, hb, hT⟩
  · have h := run_copy_nil (P := Try.prog) w 74 74 ty 73 ⟨g, 0, none⟩ (([] : List Ten).length + k) cap Try.underlying74 (by rw [hi]; rfl)
    exact ⟨_, w, h, by simpa using hg, ⟨rfl, rfl, rfl, Nat.le_refl _, fun _ _ _ => rfl⟩⟩
  · have hsrc : ∀ j v, (tenCells ts)[j]? = some v → w.cell? ((⟨b, off, none⟩ : Addr).add j) = some v := by
      intro j v hv
      have hj : j < ts.length * 4 := by
        have := (List.getElem?_eq_some_iff.1 hv).1
        rwa [tenCells_length] at this
      have hadd : (⟨b, off, none⟩ : Addr).add j = ⟨b, off + j, none⟩ := by unfold Addr.add; split <;> simp_all
      rw [hadd]
      have hi : j / 4 < ts.length := by omega
      obtain ⟨q0, q1, q2, q3⟩ := tenCells_at ts (j / 4) hi
      obtain ⟨t0, t1, t2, t3⟩ := hT (j / 4) hi
      have hr : j = j / 4 * 4 ∨ j = j / 4 * 4 + 1 ∨ j = j / 4 * 4 + 2 ∨ j = j / 4 * 4 + 3 := by omega
      rcases hr with e | e | e | e
      · rw [← e, hv] at q0
        rw [show off + j = off + j / 4 * 4 by omega, t0]
        exact q0.symm
      · rw [← e, hv] at q1
        rw [show off + j = off + j / 4 * 4 + 1 by omega, t1]
        exact q1.symm
      · rw [← e, hv] at q2
        rw [show off + j = off + j / 4 * 4 + 2 by omega, t2]
        exact q2.symm
      · rw [← e, hv] at q3
        rw [show off + j = off + j / 4 * 4 + 3 by omega, t3]
        exact q3.symm
    have hl := run_loadCells_list (P := Try.prog) w ⟨b, off, none⟩ (tenCells ts) hsrc
    have h1 : ∀ v ∈ tenCells ts, v.oneCell' = true := by
      intro v hv
      simp [tenCells] at hv
      obtain ⟨t, _, h | h | h | h⟩ := hv <;> (rw [h]; simp [Value.oneCell'])
    have hfit : 0 + 0 + (tenCells ts).length ≤ (tenCells (List.replicate (ts.length + k) zT)).toArray.size := by
      rw [tenCells_length]
      simp [tenCells_length]
      omega
    have hst := run_storeCells_at Try.prog g 0 73 (tenCells ts) 0 (tenCells (List.replicate (ts.length + k) zT)).toArray w hg hfit h1
    have hmin : Nat.min ts.length (ts.length + k) = ts.length := Nat.min_eq_left (by omega)
    rw [tenCells_length] at hl
    simp only [Nat.add_zero, Nat.zero_add, List.take_zero, List.nil_append] at hst
    refine ⟨goInt ts.length, w.setRow g (tenCells ts ++ List.drop (tenCells ts).length (tenCells (List.replicate (ts.length + k) zT)).toArray.toList).toArray, ?_, ?_, ?_⟩
    · simp [Builtin.copy_, run_underlying Try.underlying74, Builtin.lenOf, Builtin.firstCells, sizeOf, typeInfo, hi, hz1, hmin, hl, hst]
    · have e : tenCells ts ++ List.drop (tenCells ts).length (tenCells (List.replicate (ts.length + k) zT)) = tenCells (ts ++ List.replicate k zT) := by
        rw [tenCells_append, tenCells_length, tenCells_rep, tenCells_rep, List.drop_replicate, show (ts.length + k) * 4 - ts.length * 4 = k * 4 by omega]
      unfold TenBlock
      rw [setRow_heap w g _ _ 73 _ hg]
      show some (Obj.cells (tenCells ts ++ List.drop (tenCells ts).length (tenCells (List.replicate (ts.length + k) zT))).toArray 73) = _
      rw [e]
    · exact ⟨rfl, rfl, rfl, by simp, fun i _ hi => setRow_other w g i _ (fun e => hi (by rw [e]))⟩

/-- a list of tenants that was handed in: nil, empty, or a row of a block -/
def TenArg (w : World) (v : Value) (ts : List Ten) : Prop := TenSl w (fun _ => True) v ts ∨ ∃ a cap, v = .slice (some a) 0 cap ∧ ts = []

theorem TenArg.keep {w w' : World} {v : Value} {ts : List Ten} (h : TenArg w v ts) (hsz : w.heap.size ≤ w'.heap.size) (hk : ∀ k, k < w.heap.size → w'.heap[k]? = w.heap[k]?) : TenArg w' v ts := by
  rcases h with h | h
  · exact .inl (h.keep hsz (fun _ _ _ => trivial) (fun k _ hk' => hk k hk'))
  · exact .inr h

theorem run_copyA (w : World) (ty : TypeId) (g cap : Nat) (tv : Value) (ts : List Ten) (k : Nat) (hS : TenArg w tv ts) (hg : TenBlock w g (List.replicate (ts.length + k) zT)) :
    ∃ v w', (Builtin.copy_ #[74, 74] ty #[.slice (some ⟨g, 0, none⟩) (ts.length + k) cap, tv]).run Try.prog w = .ok v w' ∧ TenBlock w' g (ts ++ List.replicate k zT) ∧ w.grownBy w' (some g) := by
  rcases hS with hS | ⟨a, sc, rfl, rfl⟩
  · exact run_copyT w ty g cap _ tv ts k hS hg
  · obtain ⟨i0, hi, hz0, hz1, hz2⟩ := info_parts info73
    refine ⟨goInt 0, w, ?_, by simpa using hg, ⟨rfl, rfl, rfl, Nat.le_refl _, fun _ _ _ => rfl⟩⟩
    have hmin : Nat.min 0 k = 0 := Nat.min_eq_left (by omega)
    simp [Builtin.copy_, run_underlying Try.underlying74, Builtin.lenOf, Builtin.firstCells, sizeOf, typeInfo, hi, hmin, loadCells, loadCellsFrom, storeCells]

set_option maxRecDepth 100000 in
theorem refNew_empty (tp : Option Addr) (tc : Nat) (w : World) : Calls Try.prog 55 #[.slice tp 0 tc] w fun e w' => RefEnd w [] e w' := by
  go_enter Try.func55, Try.ntmps55
  go_wp2
  go_loopg [5] 1 (fun k i wr => i = .int .i64 0 ∧ wr = w.alloc (.cells #[.slice none 0 0, .slice none 0 0] 137))
  case atStart => exact ⟨rfl, rfl⟩
  case round =>
    obtain ⟨rfl, hwr⟩ := hrel
    have HW := hide hwr
    clear hwr
    go_wp2
    go_ret2
    have hwr := unhide HW
    refine ⟨?_, .inr ⟨rfl, _, rfl, ?_⟩⟩
    · rw [hwr]
      exact (Below.refl _ _).alloc (Nat.le_refl _) _
    · exact ⟨Nat.le_refl _, by simp, by simp, .slice none 0 0, by rw [hwr]; exact blkN _ _ _ rfl, .inl ⟨rfl, rfl⟩⟩

theorem info94 : (Try.prog.info? 94).map (fun i => (i.zero, i.size, i.bytes)) = some (some (.agg #[.pointer none, .pointer none]), 2, 16) := by kernel_rfl

section
variable {W w5 : World} {B wb : Nat} {bs : List (Nat × Nat × List Ten)} {bv mv zv : Value} {ys : List Value} {cs : List Nat} {c g cap : Nat}

theorem boxCells_snoc (bs : List (Nat × Nat × List Ten)) (x : Nat × Nat × List Ten) : boxCells (bs ++ [x]) = boxCells bs ++ [.pointer (some ⟨x.1, 0, none⟩), .pointer (some ⟨x.2.1, 0, none⟩)] := by simp [boxCells]

/-- a box more -/
theorem TabInv.stepB (h : TabInv W B wb bs bv mv zv nilS ys [] cs c 0 0) (p q : Nat) (ts : List Ten)
    (hp : ProgBox W (Free wb bv mv zv nilS) p ts) (hq : RefBox W (Free wb bv mv zv nilS) q ts) (h8 : bs.length < 8)
    (hown : w5.ownsRow B 94 2 (.slice (some ⟨g, 0, none⟩) (bs.length + 1) cap) (bs.length + 1) (boxCells bs ++ [.pointer (some ⟨p, 0, none⟩), .pointer (some ⟨q, 0, none⟩)]))
    (hgr : (bv.ownBlock = some g ∧ W.grownBy w5 (some g)) ∨ (g = W.heap.size ∧ W.grownBy w5 none)) :
    TabInv (w5.setCell ⟨wb, 0, none⟩ (.slice (some ⟨g, 0, none⟩) (bs.length + 1) cap)) B wb (bs ++ [(p, q, ts)]) (.slice (some ⟨g, 0, none⟩) (bs.length + 1) cap) mv zv nilS ys [] cs c 0 0 ∧
      Below B W (w5.setCell ⟨wb, 0, none⟩ (.slice (some ⟨g, 0, none⟩) (bs.length + 1) cap)) := by
  have hwb := (Array.getElem?_eq_some_iff.1 h.blk).1
  have hsz := size_x hgr
  have hn : ∀ k, k < W.heap.size → bv.ownBlock ≠ some k → g ≠ k := fun k hk hne => new_x hgr hk hne
  have e0 : ∀ (u : Value) (k : Nat), k < W.heap.size → k ≠ wb → bv.ownBlock ≠ some k → (w5.setCell ⟨wb, 0, none⟩ u).heap[k]? = W.heap[k]? := fun u k h1 h2 h3 => (Below.heap_setCell w5 _ u k h2).trans (kept_x hgr h1 h3)
  have hwb5 : w5.heap[wb]? = some (.cells (wcells bv mv zv c) 70 (0, 0)) := (kept_x hgr hwb h.wbv).trans h.blk
  have hs6 : ∀ u, (w5.setCell ⟨wb, 0, none⟩ u).heap.size = w5.heap.size := fun u => by simp [World.setCell]
  have hfree : ∀ k, Free wb bv mv zv nilS k → k < W.heap.size → Free wb (.slice (some ⟨g, 0, none⟩) (bs.length + 1) cap) mv zv nilS k := fun k hf hk => ⟨hf.1, fun e => hn k hk hf.2.1 (by simpa [Value.ownBlock] using e), hf.2.2⟩
  have hkeep : ∀ (u : Value) (k : Nat), Free wb bv mv zv nilS k → k < W.heap.size → (w5.setCell ⟨wb, 0, none⟩ u).heap[k]? = W.heap[k]? := fun u k hf hk => e0 u k hk hf.1 hf.2.1
  have hnil : ∀ (v : Value), Dis v nilS := fun v k _ e => by simp [nilS, Value.ownBlock] at e
  refine ⟨⟨?_, h.base, ?_, ?_, ?_, World.ownsRow_nil _ _ _ _, h.len, by simp; omega, ?_, h.wmv, h.wzv, h.wlv, ?_, ?_, hnil _, h.mz, hnil _, hnil _, ?_, ?_, ?_, by simp, h.small⟩, ?_⟩
  · simp [World.setCell, Array.getElem?_modify, hwb5, wcells]
  · rw [boxCells_snoc, show (bs ++ [(p, q, ts)]).length = bs.length + 1 by simp]
    exact ownsRow_of_block hown (fun k hk => Below.heap_setCell w5 _ _ k (fun e => by
      have : g = k := by simpa [Value.ownBlock] using hk
      exact hn wb hwb h.wbv (this.trans e)))
  · exact ownsRow_of_block h.mown (fun k hk => e0 _ k (h.mown.lt k hk).2 (fun e => h.wmv (by rw [hk, e])) (h.bm.symm k hk))
  · exact ownsRow_of_block h.zown (fun k hk => e0 _ k (h.zown.lt k hk).2 (fun e => h.wzv (by rw [hk, e])) (h.bz.symm k hk))
  · intro e
    exact hn wb hwb h.wbv (by simpa [Value.ownBlock] using e)
  · exact Dis.symm (fun k hk e => hn k (h.mown.lt k hk).2 (h.bm.symm k hk) (by simpa [Value.ownBlock] using e))
  · exact Dis.symm (fun k hk e => hn k (h.zown.lt k hk).2 (h.bz.symm k hk) (by simpa [Value.ownBlock] using e))
  · intro x hx
    rcases List.mem_append.1 hx with hx | hx
    · exact (h.pboxes x hx).keep (by rw [hs6]; exact hsz) hfree (hkeep _)
    · simp at hx
      subst hx
      exact hp.keep (by rw [hs6]; exact hsz) hfree (hkeep _)
  · intro x hx
    rcases List.mem_append.1 hx with hx | hx
    · exact (h.rboxes x hx).keep (by rw [hs6]; exact hsz) hfree (hkeep _)
    · simp at hx
      subst hx
      exact hq.keep (by rw [hs6]; exact hsz) hfree (hkeep _)
  · exact fun i h1 h2 => (h.marks i h1 h2).keep (Nat.le_refl _) (by rw [hs6]; exact hsz) hfree (hkeep _)
  · exact (below_x hgr (by have := h.base; omega) (fun k hk => (h.bown.lt k hk).1)).setCell h.base _

/-- blocks that came later are free -/
theorem TabInv.later {w0 : World} {l : Value} {nw : List Value} {kz kl : Nat} (h : TabInv w0 B wb bs bv mv zv l ys nw cs c kz kl) {k : Nat} (hk : w0.heap.size ≤ k) : Free wb bv mv zv nilS k := by
  have hwb := (Array.getElem?_eq_some_iff.1 h.blk).1
  refine ⟨by omega, fun e => ?_, fun e => ?_, fun e => ?_, by simp [nilS, Value.ownBlock]⟩
  · have := (h.bown.lt k e).2; omega
  · have := (h.mown.lt k e).2; omega
  · have := (h.zown.lt k e).2; omega
end

/-- the tenants that the owner writes over his list -/
def freshT (n : Nat) : List Ten := (List.range n).map fun i : Nat => ⟨1 + (i : Int), 70 + (i : Int), 5, 5⟩

theorem freshT_length (n : Nat) : (freshT n).length = n := by simp [freshT]

theorem freshT_take (n m : Nat) (h : n ≤ m) : (freshT m).take n = freshT n := by
  unfold freshT
  rw [← List.map_take, List.take_range, Nat.min_eq_left h]

/-- i of them written over the list -/
theorem over_set (xs : List Ten) (i : Nat) (h : i < xs.length) : (freshT i ++ xs.drop i).set i ⟨1 + (i : Int), 70 + (i : Int), 5, 5⟩ = freshT (i + 1) ++ xs.drop (i + 1) := by
  have e : freshT (i + 1) = freshT i ++ [⟨1 + (i : Int), 70 + (i : Int), 5, 5⟩] := by
    unfold freshT
    rw [List.range_succ, List.map_append]
    rfl
  rw [List.drop_eq_getElem_cons h, e]
  rw [List.set_append_right _ _ (by rw [freshT_length]; exact Nat.le_refl _), freshT_length, Nat.sub_self, List.set_cons_zero, List.append_assoc]
  rfl

theorem over_at (xs : List Ten) (i : Nat) (h : i < xs.length) (h' : i < (freshT i ++ xs.drop i).length) : (freshT i ++ xs.drop i)[i] = xs[i] := by
  rw [List.getElem_append_right (by rw [freshT_length]; exact Nat.le_refl _)]
  simp [freshT_length]

theorem fill_set (ts : List Ten) (k : Nat) (h : k < 4) : (ts ++ List.replicate k m7 ++ List.replicate (4 - k) zT).set (ts.length + k) m7 = ts ++ List.replicate (k + 1) m7 ++ List.replicate (4 - (k + 1)) zT := by
  rw [List.set_append_right _ _ (by simp)]
  have e : ts.length + k - (ts ++ List.replicate k m7).length = 0 := by simp
  rw [e, show 4 - k = (4 - (k + 1)) + 1 by omega, List.replicate_succ, List.set_cons_zero]
  simp [List.replicate_succ', List.append_assoc]

end Go.Proofs.Ytgpplekabohneaa.B0
