/- What the statement's own world holds between two steps: its boxes, the lists that came out and their marks; and how a new row, a store, a new block leave it. -/
import Derived.Test.YtgpplekabohneaaHc
namespace Go.Proofs.Ytgpplekabohneaa.B0
open Go.RowKit

def nilS : Value := .slice none 0 0

/-- the cells of the statement's world -/
def wcells (bv mv zv : Value) (c : Nat) : Array Value := #[bv, nilS, nilS, nilS, mv, zv, nilS, nilS, nilS, nilS, .int .i64 c]

def boxCells (bs : List (Nat × Nat × List Ten)) : List Value := bs.flatMap fun x => [.pointer (some ⟨x.1, 0, none⟩), .pointer (some ⟨x.2.1, 0, none⟩)]

/-- the cells of a mapping that its owner wrote over with the mark c -/
def markCells (c : Nat) : List Value := [.int .i64 (-(c : Int)), .int .i64 0, .int .i64 0, .int .i64 c, .slice none 0 0, .int .i64 0, .int .i64 0]

/-- n of them -/
def marksOf (c : Nat) : Nat → List Value
  | 0 => []
  | n + 1 => marksOf c n ++ markCells c

theorem marksOf_length (c n : Nat) : (marksOf c n).length = n * 7 := by
  induction n with
  | zero => rfl
  | succ n ih => simp [marksOf, ih, markCells]; omega

theorem marksOf_at (c : Nat) : ∀ (n i o : Nat) (v : Value), i < n → (markCells c)[o]? = some v → (marksOf c n)[i * 7 + o]? = some v
  | n + 1, i, o, v, hi, hv => by
    have ho : o < 7 := by
      have := (List.getElem?_eq_some_iff.1 hv).1
      simpa [markCells] using this
    by_cases h : i < n
    · rw [marksOf, List.getElem?_append_left (by rw [marksOf_length]; omega)]
      exact marksOf_at c n i o v h hv
    · have e : i = n := by omega
      subst e
      rw [marksOf, List.getElem?_append_right (by rw [marksOf_length]; omega), marksOf_length]
      rw [show i * 7 + o - i * 7 = o by omega]
      exact hv

/-- the values lie in two rows, if they lie in any -/
def Dis (a b : Value) : Prop := ∀ k, a.ownBlock = some k → b.ownBlock ≠ some k
theorem Dis.symm {a b : Value} (h : Dis a b) : Dis b a := fun k hb ha => h k ha hb

/-- none of the four rows, nor the world's own block -/
def Free (wb : Nat) (bv mv zv l : Value) (k : Nat) : Prop := k ≠ wb ∧ bv.ownBlock ≠ some k ∧ mv.ownBlock ≠ some k ∧ zv.ownBlock ≠ some k ∧ l.ownBlock ≠ some k

/-- a list of at most n mappings, each with the mark c, in a block of T -/
def Mark (w : World) (T : Nat → Prop) (v : Value) (c n : Nat) : Prop :=
  v = nilS ∨ ∃ g m cap, v = .slice (some ⟨g, 0, none⟩) m cap ∧ m ≤ n ∧ m ≤ cap ∧ cap ≤ maxLen ∧ T g ∧ g < w.heap.size ∧
    ∀ i o u, i < m → (markCells c)[o]? = some u → w.cell? ⟨g, i * 7 + o, none⟩ = some u

theorem Mark.keep {w w' : World} {T T' : Nat → Prop} {v : Value} {c n n' : Nat} (h : Mark w T v c n) (hn : n ≤ n') (hsz : w.heap.size ≤ w'.heap.size) (hT : ∀ k, T k → k < w.heap.size → T' k) (hk : ∀ k, T k → k < w.heap.size → w'.heap[k]? = w.heap[k]?) : Mark w' T' v c n' := by
  rcases h with h | ⟨g, m, cap, h1, h2, h3, h4, h5, h6, h7⟩
  · exact .inl h
  · exact .inr ⟨g, m, cap, h1, by omega, h3, h4, hT _ h5 h6, by omega, fun i o u hi hu => (World.cell?_of_block (a := ⟨g, i * 7 + o, none⟩) (hk _ h5 h6)).trans (h7 i o u hi hu)⟩

/-- a row of marks is such a list -/
theorem Mark.of_owns {w : World} {B : Nat} {T : Nat → Prop} {v : Value} {c n : Nat} (h : w.ownsRow B 52 7 v n (marksOf c n)) (hT : ∀ k, v.ownBlock = some k → T k) : Mark w T v c n := by
  rcases h.2 with ⟨h1, _⟩ | ⟨g, cap, cur, h1, hbg, hg, hnc, hcm, hcs, htake⟩
  · exact .inl h1
  · subst h1
    refine .inr ⟨g, n, cap, rfl, Nat.le_refl _, hnc, hcm, hT g rfl, (Array.getElem?_eq_some_iff.1 hg).1, fun i o u hi hu => ?_⟩
    have := h.cells (g := g) rfl _ _ (marksOf_at c n i o u hi hu)
    have hadd : (⟨g, 0, none⟩ : Addr).add (i * 7 + o) = ⟨g, i * 7 + o, none⟩ := by unfold Addr.add; split <;> simp_all
    rwa [hadd] at this

/-- what the statement's world holds: its boxes, the lists that came out (those that come just now are 'nw', cut from the list l) -/
structure TabInv (w : World) (B wb : Nat) (bs : List (Nat × Nat × List Ten)) (bv mv zv l : Value) (ys nw : List Value) (cs : List Nat) (c kz kl : Nat) : Prop where
  blk : w.heap[wb]? = some (.cells (wcells bv mv zv c) 70 (0, 0))
  base : B ≤ wb
  bown : w.ownsRow B 94 2 bv bs.length (boxCells bs)
  mown : w.ownsRow B 43 1 mv (ys.length + nw.length) (ys ++ nw)
  zown : w.ownsRow B 3 1 zv (ys.length + kz) ((cs ++ List.replicate kz c).map fun x : Nat => Value.int .i64 (x : Int))
  lown : w.ownsRow B 52 7 l kl (marksOf c kl)
  len : cs.length = ys.length
  nb : bs.length ≤ 8
  wbv : bv.ownBlock ≠ some wb
  wmv : mv.ownBlock ≠ some wb
  wzv : zv.ownBlock ≠ some wb
  wlv : l.ownBlock ≠ some wb
  bm : Dis bv mv
  bz : Dis bv zv
  bl : Dis bv l
  mz : Dis mv zv
  ml : Dis mv l
  zl : Dis zv l
  pboxes : ∀ x ∈ bs, ProgBox w (Free wb bv mv zv l) x.1 x.2.2
  rboxes : ∀ x ∈ bs, RefBox w (Free wb bv mv zv l) x.2.1 x.2.2
  marks : ∀ i (h : i < ys.length) (h' : i < cs.length), Mark w (Free wb bv mv zv l) ys[i] cs[i] 4
  news : ∀ v ∈ nw, Mark w (Free wb bv mv zv nilS) v c kl
  small : ∀ x ∈ cs, x ≤ c

/-- between two steps -/
def Inv (w : World) (B wb : Nat) (bs : List (Nat × Nat × List Ten)) (bv mv zv : Value) (ys : List Value) (cs : List Nat) (c : Nat) : Prop :=
  TabInv w B wb bs bv mv zv nilS ys [] cs c 0 0 ∧ ys.length ≤ 4 * c

/-- nothing old has turned -/
theorem TabInv.below {w w' : World} {B wb : Nat} {bs : List (Nat × Nat × List Ten)} {bv mv zv l : Value} {ys nw : List Value} {cs : List Nat} {c kz kl : Nat} (h : TabInv w B wb bs bv mv zv l ys nw cs c kz kl) (hb : Below w.heap.size w w') : TabInv w' B wb bs bv mv zv l ys nw cs c kz kl where
  blk := (hb.block wb (Array.getElem?_eq_some_iff.1 h.blk).1).trans h.blk
  base := h.base
  bown := ownsRow_of_below h.bown hb
  mown := ownsRow_of_below h.mown hb
  zown := ownsRow_of_below h.zown hb
  lown := ownsRow_of_below h.lown hb
  len := h.len
  nb := h.nb
  wbv := h.wbv
  wmv := h.wmv
  wzv := h.wzv
  wlv := h.wlv
  bm := h.bm
  bz := h.bz
  bl := h.bl
  mz := h.mz
  ml := h.ml
  zl := h.zl
  pboxes := fun x hx => (h.pboxes x hx).keep hb.size (fun _ h _ => h) (fun k _ hk => hb.block k hk)
  rboxes := fun x hx => (h.rboxes x hx).keep hb.size (fun _ h _ => h) (fun k _ hk => hb.block k hk)
  marks := fun i h1 h2 => (h.marks i h1 h2).keep (Nat.le_refl _) hb.size (fun _ h _ => h) (fun k _ hk => hb.block k hk)
  news := fun v hv => (h.news v hv).keep (Nat.le_refl _) hb.size (fun _ h _ => h) (fun k _ hk => hb.block k hk)
  small := h.small

theorem Inv.below {w w' : World} {B wb : Nat} {bs : List (Nat × Nat × List Ten)} {bv mv zv : Value} {ys : List Value} {cs : List Nat} {c : Nat} (h : Inv w B wb bs bv mv zv ys cs c) (hb : Below w.heap.size w w') : Inv w' B wb bs bv mv zv ys cs c := ⟨h.1.below hb, h.2⟩

theorem ownsRow_of_block {w w' : World} {base e size n : Nat} {v : Value} {xs : List Value} (h : w.ownsRow base e size v n xs) (hk : ∀ k, v.ownBlock = some k → w'.heap[k]? = w.heap[k]?) : w'.ownsRow base e size v n xs := by
  refine ⟨h.1, ?_⟩
  rcases h.2 with hn | ⟨g, cap, cur, rfl, hb, hgg, rest⟩
  · exact .inl hn
  · exact .inr ⟨g, cap, cur, rfl, hb, (hk g rfl).trans hgg, rest⟩

/-- where the row lies that was appended to -/
theorem new_x {W w5 : World} {v : Value} {g : Nat} (hgr : (v.ownBlock = some g ∧ W.grownBy w5 (some g)) ∨ (g = W.heap.size ∧ W.grownBy w5 none)) {k : Nat} (hk : k < W.heap.size) (hne : v.ownBlock ≠ some k) : g ≠ k := by
  rcases hgr with ⟨h1, _⟩ | ⟨h1, _⟩
  · intro e
    exact hne (by rw [h1, e])
  · omega

section
variable {W w5 : World} {B wb : Nat} {bs : List (Nat × Nat × List Ten)} {bv mv zv l : Value} {ys nw : List Value} {cs : List Nat} {c kz kl g cap : Nat}

/-- a list more among the mappings -/
theorem TabInv.stepM (h : TabInv W B wb bs bv mv zv l ys nw cs c kz kl)
    (hown : w5.ownsRow B 43 1 (.slice (some ⟨g, 0, none⟩) (ys.length + nw.length + 1) cap) (ys.length + nw.length + 1) (ys ++ nw ++ [l]))
    (hgr : (mv.ownBlock = some g ∧ W.grownBy w5 (some g)) ∨ (g = W.heap.size ∧ W.grownBy w5 none)) :
    TabInv (w5.setCell ⟨wb, 4, none⟩ (.slice (some ⟨g, 0, none⟩) (ys.length + nw.length + 1) cap)) B wb bs bv (.slice (some ⟨g, 0, none⟩) (ys.length + nw.length + 1) cap) zv l ys (nw ++ [l]) cs c kz kl ∧
      Below B W (w5.setCell ⟨wb, 4, none⟩ (.slice (some ⟨g, 0, none⟩) (ys.length + nw.length + 1) cap)) := by
  have hwb := (Array.getElem?_eq_some_iff.1 h.blk).1
  have hsz := size_x hgr
  have hn : ∀ k, k < W.heap.size → mv.ownBlock ≠ some k → g ≠ k := fun k hk hne => new_x hgr hk hne
  have e0 : ∀ (u : Value) (k : Nat), k < W.heap.size → k ≠ wb → mv.ownBlock ≠ some k → (w5.setCell ⟨wb, 4, none⟩ u).heap[k]? = W.heap[k]? := fun u k h1 h2 h3 => (Below.heap_setCell w5 _ u k h2).trans (kept_x hgr h1 h3)
  have hwb5 : w5.heap[wb]? = some (.cells (wcells bv mv zv c) 70 (0, 0)) := (kept_x hgr hwb h.wmv).trans h.blk
  have hs6 : ∀ u, (w5.setCell ⟨wb, 4, none⟩ u).heap.size = w5.heap.size := fun u => by simp [World.setCell]
  have hfree : ∀ (x : Value) k, Free wb bv mv zv x k → k < W.heap.size → Free wb bv (.slice (some ⟨g, 0, none⟩) (ys.length + nw.length + 1) cap) zv x k := fun x k hf hk => ⟨hf.1, hf.2.1, fun e => hn k hk hf.2.2.1 (by simpa [Value.ownBlock] using e), hf.2.2.2⟩
  have hkeep : ∀ (u x : Value) (k : Nat), Free wb bv mv zv x k → k < W.heap.size → (w5.setCell ⟨wb, 4, none⟩ u).heap[k]? = W.heap[k]? := fun u x k hf hk => e0 u k hk hf.1 hf.2.2.1
  refine ⟨⟨?_, h.base, ?_, ?_, ?_, ?_, h.len, h.nb, h.wbv, ?_, h.wzv, h.wlv, ?_, h.bz, h.bl, ?_, ?_, h.zl, ?_, ?_, ?_, ?_, h.small⟩, ?_⟩
  · simp [World.setCell, Array.getElem?_modify, hwb5, wcells]
  · exact ownsRow_of_block h.bown (fun k hk => e0 _ k (h.bown.lt k hk).2 (fun e => h.wbv (by rw [hk, e])) (h.bm k hk))
  · have e1 : ys.length + (nw ++ [l]).length = ys.length + nw.length + 1 := by simp; omega
    rw [e1, ← List.append_assoc]
    exact ownsRow_of_block hown (fun k hk => Below.heap_setCell w5 _ _ k (fun e => by
      have : g = k := by simpa [Value.ownBlock] using hk
      exact hn wb hwb h.wmv (this.trans e)))
  · exact ownsRow_of_block h.zown (fun k hk => e0 _ k (h.zown.lt k hk).2 (fun e => h.wzv (by rw [hk, e])) (h.mz.symm k hk))
  · exact ownsRow_of_block h.lown (fun k hk => e0 _ k (h.lown.lt k hk).2 (fun e => h.wlv (by rw [hk, e])) (h.ml.symm k hk))
  · intro e
    exact hn wb hwb h.wmv (by simpa [Value.ownBlock] using e)
  · intro k hk e
    exact hn k (h.bown.lt k hk).2 (h.bm k hk) (by simpa [Value.ownBlock] using e)
  · exact Dis.symm (fun k hk e => hn k (h.zown.lt k hk).2 (h.mz.symm k hk) (by simpa [Value.ownBlock] using e))
  · exact Dis.symm (fun k hk e => hn k (h.lown.lt k hk).2 (h.ml.symm k hk) (by simpa [Value.ownBlock] using e))
  · exact fun x hx => (h.pboxes x hx).keep (by rw [hs6]; exact hsz) (hfree l) (hkeep _ l)
  · exact fun x hx => (h.rboxes x hx).keep (by rw [hs6]; exact hsz) (hfree l) (hkeep _ l)
  · exact fun i h1 h2 => (h.marks i h1 h2).keep (Nat.le_refl _) (by rw [hs6]; exact hsz) (hfree l) (hkeep _ l)
  · intro v hv
    rcases List.mem_append.1 hv with hv | hv
    · exact (h.news v hv).keep (Nat.le_refl _) (by rw [hs6]; exact hsz) (hfree nilS) (hkeep _ nilS)
    · simp at hv
      subst hv
      have := Mark.of_owns (T := Free wb bv mv zv nilS) h.lown (fun k hk => ⟨fun e => h.wlv (by rw [hk, e]), h.bl.symm k hk, h.ml.symm k hk, h.zl.symm k hk, by simp [nilS, Value.ownBlock]⟩)
      exact this.keep (Nat.le_refl _) (by rw [hs6]; exact hsz) (hfree nilS) (hkeep _ nilS)
  · exact (below_x hgr (by have := h.base; omega) (fun k hk => (h.mown.lt k hk).1)).setCell h.base _

/-- its mark -/
theorem TabInv.stepZ (h : TabInv W B wb bs bv mv zv l ys nw cs c kz kl)
    (hown : w5.ownsRow B 3 1 (.slice (some ⟨g, 0, none⟩) (ys.length + kz + 1) cap) (ys.length + kz + 1) (((cs ++ List.replicate kz c).map fun x : Nat => Value.int .i64 (x : Int)) ++ [.int .i64 c]))
    (hgr : (zv.ownBlock = some g ∧ W.grownBy w5 (some g)) ∨ (g = W.heap.size ∧ W.grownBy w5 none)) :
    TabInv (w5.setCell ⟨wb, 5, none⟩ (.slice (some ⟨g, 0, none⟩) (ys.length + kz + 1) cap)) B wb bs bv mv (.slice (some ⟨g, 0, none⟩) (ys.length + kz + 1) cap) l ys nw cs c (kz + 1) kl ∧
      Below B W (w5.setCell ⟨wb, 5, none⟩ (.slice (some ⟨g, 0, none⟩) (ys.length + kz + 1) cap)) := by
  have hwb := (Array.getElem?_eq_some_iff.1 h.blk).1
  have hsz := size_x hgr
  have hn : ∀ k, k < W.heap.size → zv.ownBlock ≠ some k → g ≠ k := fun k hk hne => new_x hgr hk hne
  have e0 : ∀ (u : Value) (k : Nat), k < W.heap.size → k ≠ wb → zv.ownBlock ≠ some k → (w5.setCell ⟨wb, 5, none⟩ u).heap[k]? = W.heap[k]? := fun u k h1 h2 h3 => (Below.heap_setCell w5 _ u k h2).trans (kept_x hgr h1 h3)
  have hwb5 : w5.heap[wb]? = some (.cells (wcells bv mv zv c) 70 (0, 0)) := (kept_x hgr hwb h.wzv).trans h.blk
  have hs6 : ∀ u, (w5.setCell ⟨wb, 5, none⟩ u).heap.size = w5.heap.size := fun u => by simp [World.setCell]
  have hfree : ∀ (x : Value) k, Free wb bv mv zv x k → k < W.heap.size → Free wb bv mv (.slice (some ⟨g, 0, none⟩) (ys.length + kz + 1) cap) x k := fun x k hf hk => ⟨hf.1, hf.2.1, hf.2.2.1, fun e => hn k hk hf.2.2.2.1 (by simpa [Value.ownBlock] using e), hf.2.2.2.2⟩
  have hkeep : ∀ (u x : Value) (k : Nat), Free wb bv mv zv x k → k < W.heap.size → (w5.setCell ⟨wb, 5, none⟩ u).heap[k]? = W.heap[k]? := fun u x k hf hk => e0 u k hk hf.1 hf.2.2.2.1
  refine ⟨⟨?_, h.base, ?_, ?_, ?_, ?_, h.len, h.nb, h.wbv, h.wmv, ?_, h.wlv, h.bm, ?_, h.bl, ?_, h.ml, ?_, ?_, ?_, ?_, ?_, h.small⟩, ?_⟩
  · simp [World.setCell, Array.getElem?_modify, hwb5, wcells]
  · exact ownsRow_of_block h.bown (fun k hk => e0 _ k (h.bown.lt k hk).2 (fun e => h.wbv (by rw [hk, e])) (h.bz k hk))
  · exact ownsRow_of_block h.mown (fun k hk => e0 _ k (h.mown.lt k hk).2 (fun e => h.wmv (by rw [hk, e])) (h.mz k hk))
  · have e2 : ((cs ++ List.replicate (kz + 1) c).map fun x : Nat => Value.int .i64 (x : Int)) = ((cs ++ List.replicate kz c).map fun x : Nat => Value.int .i64 (x : Int)) ++ [.int .i64 c] := by
      rw [List.replicate_succ', ← List.append_assoc, List.map_append]
      rfl
    rw [e2]
    exact ownsRow_of_block hown (fun k hk => Below.heap_setCell w5 _ _ k (fun e => by
      have : g = k := by simpa [Value.ownBlock] using hk
      exact hn wb hwb h.wzv (this.trans e)))
  · exact ownsRow_of_block h.lown (fun k hk => e0 _ k (h.lown.lt k hk).2 (fun e => h.wlv (by rw [hk, e])) (h.zl.symm k hk))
  · intro e
    exact hn wb hwb h.wzv (by simpa [Value.ownBlock] using e)
  · intro k hk e
    exact hn k (h.bown.lt k hk).2 (h.bz k hk) (by simpa [Value.ownBlock] using e)
  · intro k hk e
    exact hn k (h.mown.lt k hk).2 (h.mz k hk) (by simpa [Value.ownBlock] using e)
  · exact Dis.symm (fun k hk e => hn k (h.lown.lt k hk).2 (h.zl.symm k hk) (by simpa [Value.ownBlock] using e))
  · exact fun x hx => (h.pboxes x hx).keep (by rw [hs6]; exact hsz) (hfree l) (hkeep _ l)
  · exact fun x hx => (h.rboxes x hx).keep (by rw [hs6]; exact hsz) (hfree l) (hkeep _ l)
  · exact fun i h1 h2 => (h.marks i h1 h2).keep (Nat.le_refl _) (by rw [hs6]; exact hsz) (hfree l) (hkeep _ l)
  · exact fun v hv => (h.news v hv).keep (Nat.le_refl _) (by rw [hs6]; exact hsz) (hfree nilS) (hkeep _ nilS)
  · exact (below_x hgr (by have := h.base; omega) (fun k hk => (h.zown.lt k hk).1)).setCell h.base _

/-- the list grows by one that bears the mark -/
theorem TabInv.stepL (h : TabInv W B wb bs bv mv zv l ys nw cs c kz kl)
    (hown : w5.ownsRow B 52 7 (.slice (some ⟨g, 0, none⟩) (kl + 1) cap) (kl + 1) (marksOf c kl ++ markCells c))
    (hgr : (l.ownBlock = some g ∧ W.grownBy w5 (some g)) ∨ (g = W.heap.size ∧ W.grownBy w5 none)) :
    TabInv w5 B wb bs bv mv zv (.slice (some ⟨g, 0, none⟩) (kl + 1) cap) ys nw cs c kz (kl + 1) ∧ Below B W w5 := by
  have hwb := (Array.getElem?_eq_some_iff.1 h.blk).1
  have hsz := size_x hgr
  have hn : ∀ k, k < W.heap.size → l.ownBlock ≠ some k → g ≠ k := fun k hk hne => new_x hgr hk hne
  have e0 : ∀ (k : Nat), k < W.heap.size → l.ownBlock ≠ some k → w5.heap[k]? = W.heap[k]? := fun k h1 h3 => kept_x hgr h1 h3
  have hfree : ∀ k, Free wb bv mv zv l k → k < W.heap.size → Free wb bv mv zv (.slice (some ⟨g, 0, none⟩) (kl + 1) cap) k := fun k hf hk => ⟨hf.1, hf.2.1, hf.2.2.1, hf.2.2.2.1, fun e => hn k hk hf.2.2.2.2 (by simpa [Value.ownBlock] using e)⟩
  have hkeep : ∀ (k : Nat), Free wb bv mv zv l k → k < W.heap.size → w5.heap[k]? = W.heap[k]? := fun k hf hk => e0 k hk hf.2.2.2.2
  have hlown5 : w5.ownsRow B 52 7 (.slice (some ⟨g, 0, none⟩) (kl + 1) cap) (kl + 1) (marksOf c (kl + 1)) := hown
  refine ⟨⟨?_, h.base, ?_, ?_, ?_, hlown5, h.len, h.nb, h.wbv, h.wmv, h.wzv, ?_, h.bm, h.bz, ?_, h.mz, ?_, ?_, ?_, ?_, ?_, ?_, h.small⟩, ?_⟩
  · exact (e0 wb hwb h.wlv).trans h.blk
  · exact ownsRow_of_block h.bown (fun k hk => e0 k (h.bown.lt k hk).2 (h.bl k hk))
  · exact ownsRow_of_block h.mown (fun k hk => e0 k (h.mown.lt k hk).2 (h.ml k hk))
  · exact ownsRow_of_block h.zown (fun k hk => e0 k (h.zown.lt k hk).2 (h.zl k hk))
  · intro e
    exact hn wb hwb h.wlv (by simpa [Value.ownBlock] using e)
  · intro k hk e
    exact hn k (h.bown.lt k hk).2 (h.bl k hk) (by simpa [Value.ownBlock] using e)
  · intro k hk e
    exact hn k (h.mown.lt k hk).2 (h.ml k hk) (by simpa [Value.ownBlock] using e)
  · intro k hk e
    exact hn k (h.zown.lt k hk).2 (h.zl k hk) (by simpa [Value.ownBlock] using e)
  · exact fun x hx => (h.pboxes x hx).keep hsz hfree hkeep
  · exact fun x hx => (h.rboxes x hx).keep hsz hfree hkeep
  · exact fun i h1 h2 => (h.marks i h1 h2).keep (Nat.le_refl _) hsz hfree hkeep
  · intro v hv
    rcases h.news v hv with hv | ⟨g2, m, cap2, h1, h2, h3, h4, h5, h6, h7⟩
    · exact .inl hv
    · refine .inr ⟨g2, m, cap2, h1, by omega, h3, h4, h5, by omega, fun i o u hi hu => ?_⟩
      by_cases hl : l.ownBlock = some g2
      · rcases hgr with ⟨hg1, _⟩ | ⟨_, hg2⟩
        · have e : g = g2 := by rw [hg1] at hl; simpa using hl
          subst e
          have := hlown5.cells (g := g) rfl _ _ (marksOf_at c (kl + 1) i o u (by omega) hu)
          have hadd : (⟨g, 0, none⟩ : Addr).add (i * 7 + o) = ⟨g, i * 7 + o, none⟩ := by unfold Addr.add; split <;> simp_all
          rwa [hadd] at this
        · exact (World.cell?_of_block (a := ⟨g2, i * 7 + o, none⟩) (hg2.block g2 h6 (by simp))).trans (h7 i o u hi hu)
      · exact (World.cell?_of_block (a := ⟨g2, i * 7 + o, none⟩) (e0 g2 h6 hl)).trans (h7 i o u hi hu)
  · exact below_x hgr (by have := h.base; omega) (fun k hk => (h.lown.lt k hk).1)

end

end Go.Proofs.Ytgpplekabohneaa.B0
