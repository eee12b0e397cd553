/- The world of 'Boxes'. -/
import Derived.Test.YtgpplekabohneaaHa
import Derived.Test.YtgpplekabohneaaXi
namespace Go.Proofs.Ytgpplekabohneaa.B0
open Go.RowKit

/-- growing by one: a quarter more, or twice a small row -/
theorem next_le (n : Nat) : Builtin.nextslicecap (n + 1) n ≤ n + (n + 768) / 4 + 512 := by
  unfold Builtin.nextslicecap
  split
  · omega
  · split
    · omega
    · rw [growBy_four]
      repeat' split
      all_goals omega

section
variable {P : Program} (w : World)

/-- the new row of the growing arm -/
theorem grown_row (base e size n old : Nat) (z : Value) (hzs : z.cells.size = size) (xs news : List Value) (hx : xs.length = n * size) (hl : news.length = size) (h63 : n + 1 ≤ maxLen) (hbase : base ≤ w.heap.size) :
    (w.drew.alloc (.cells (xs.toArray ++ news.toArray ++ Builtin.zeroCells z.cells (grownCap w (n + 1) old e - (n + 1))) e)).ownsRow base e size (.slice (some ⟨w.heap.size, 0, none⟩) (n + 1) (grownCap w (n + 1) old e)) (n + 1) (xs ++ news) := by
  have hge := grownCap_ge w (n + 1) old e
  have hlen : (xs ++ news).length = (n + 1) * size := by rw [List.length_append, hx, hl, Nat.add_mul]; omega
  refine ⟨hlen, .inr ⟨w.heap.size, grownCap w (n + 1) old e, _, rfl, hbase, blkN w.drew _ _ rfl, hge, grownCap_le_maxLen w (n + 1) old e h63, ?_, ?_⟩⟩
  · rw [Array.size_append, Array.size_append, size_zeroCells, hzs, List.size_toArray, List.size_toArray, hx, hl]
    have e1 : n * size + size = (n + 1) * size := by rw [Nat.add_mul]; omega
    rw [e1, ← Nat.add_mul]
    congr 1
    omega
  · have e2 : (xs.toArray ++ news.toArray ++ Builtin.zeroCells z.cells (grownCap w (n + 1) old e - (n + 1))).toList = (xs ++ news) ++ (Builtin.zeroCells z.cells (grownCap w (n + 1) old e - (n + 1))).toList := by simp
    rw [e2, ← hlen, List.take_left]

theorem run_append_y (t ty : TypeId) (base : Nat) (e : TypeId) (i : TypeInfo) (z : Value) (size bytes : Nat) (ht : P.underlying t = some (.slice e)) (hi : P.info? e = some i) (hz : i.zero = some z)
    (hsize : i.size = size) (hby : i.bytes = bytes) (hzs : z.cells.size = size)
    (v : Value) (n : Nat) (xs : List Value) (hown : w.ownsRow base e size v n xs)
    (ad : Addr) (c : Nat) (news : List Value) (hl : news.length = size) (hnews : ∀ j u, news[j]? = some u → w.cell? (ad.add j) = some u) (h1 : ∀ u ∈ news, u.oneCell' = true)
    (h63 : n + 1 ≤ maxLen) (h48 : (n + (n + 768) / 4 + 512) * bytes ≤ 281474976710656) (hbase : base ≤ w.heap.size) :
    ∃ g cap w', (Builtin.append_ #[t, t] ty #[v, .slice (some ad) 1 c]).run P w = .ok (.slice (some ⟨g, 0, none⟩) (n + 1) cap) w' ∧
      w'.ownsRow base e size (.slice (some ⟨g, 0, none⟩) (n + 1) cap) (n + 1) (xs ++ news) ∧ ((v.ownBlock = some g ∧ w.grownBy w' (some g)) ∨ (g = w.heap.size ∧ w.grownBy w' none)) := by
  subst hsize
  subst hby
  have hl1 : news.length = 1 * i.size := by omega
  have hsmall : n + 1 ≤ 9223372036854775807 := by simp only [maxLen] at h63; omega
  have hby1 : i.bytes ≤ 281474976710656 := Nat.le_trans (Nat.le_mul_of_pos_left _ (by omega)) h48
  have hgr : ∀ (o : Obj), w.grownBy (w.drew.alloc o) none := fun o => ⟨rfl, rfl, rfl, by simp, fun k hk _ => Below.heap_alloc w.drew o k hk⟩
  rcases hown.2 with ⟨rfl, rfl⟩ | ⟨g, cap, cur, rfl, hbg, hg, hnc, hcm, hcs, htake⟩
  · have hx : xs = [] := List.eq_nil_of_length_eq_zero (by simpa using hown.1)
    subst hx
    have hr := run_append_nil (P := P) w t ty e i z ht hi hz ad 1 c news hl1 hnews (by omega) (by omega) (by omega)
    have ho := grown_row w base e i.size 0 0 z hzs [] news (by simp) hl h63 hbase
    simp only [Nat.zero_add, Array.empty_append] at ho
    exact ⟨w.heap.size, _, _, hr, by simpa using ho, .inr ⟨rfl, hgr _⟩⟩
  · by_cases hroom : n + 1 ≤ cap
    · have hfit : n * i.size + news.length ≤ cur.size := by
        rw [hl, hcs]
        have := Nat.mul_le_mul_right i.size hroom
        rw [Nat.add_mul] at this
        omega
      have hr := run_append_room (P := P) w t ty e i ht hi g n cap cur hg ad 1 c news hl1 hnews h1 hroom hfit
      refine ⟨g, cap, _, hr, ⟨?_, .inr ⟨g, cap, _, rfl, hbg, setRow_heap w g cur _ e _ hg, hroom, hcm, ?_, ?_⟩⟩, .inl ⟨rfl, rfl, rfl, rfl, by simp, fun k _ hk => setRow_other w g k _ (fun e => hk (by rw [e]))⟩⟩
      · rw [List.length_append, hown.1, hl, Nat.add_mul]
        omega
      · rw [List.size_toArray, List.length_append, List.length_append, List.length_take, List.length_drop, Array.length_toList]
        omega
      · have e1 : (n + 1) * i.size = (cur.toList.take (n * i.size) ++ news).length := by
          rw [htake, List.length_append, hown.1, hl, Nat.add_mul]
          omega
        rw [List.toList_toArray, e1, List.take_left, htake]
    · have hcn : cap = n := by omega
      subst hcn
      have holds : ∀ j u, xs[j]? = some u → w.cell? ((⟨g, 0, none⟩ : Addr).add j) = some u := hown.cells (g := g) rfl
      have hfit : Builtin.nextslicecap (cap + 1) cap * i.bytes ≤ 281474976710656 := Nat.le_trans (Nat.mul_le_mul_right _ (next_le cap)) h48
      have hr := run_append_grow (P := P) w t ty e i z ht hi hz ⟨g, 0, none⟩ cap cap xs hown.1 holds ad 1 c news hl1 hnews (by omega) (by omega) hfit
      exact ⟨w.heap.size, _, _, hr, grown_row w base e i.size cap cap z hzs xs news hown.1 hl h63 hbase, .inr ⟨rfl, hgr _⟩⟩

theorem wpList_append_y {ops : Array Oper} {rest : List Oper} {o : Oper} {a : Act} {Q : Exit → Act → World → Prop} (hgd : o.guard = none) (s x : Operand) (t : TypeId)
    (ho : o.op = .call { callee := .builtin .append, args := #[s, x], argTypes := #[t, t] })
    (base : Nat) (e : TypeId) (i : TypeInfo) (z : Value) (size bytes : Nat) (ht : P.underlying t = some (.slice e)) (hi : P.info? e = some i) (hz : i.zero = some z)
    (hsize : i.size = size) (hby : i.bytes = bytes) (hzs : z.cells.size = size)
    (v : Value) (n : Nat) (xs : List Value) (hs : a.eval s = v) (hown : w.ownsRow base e size v n xs)
    (ad : Addr) (c : Nat) (news : List Value) (hx : a.eval x = .slice (some ad) 1 c) (hl : news.length = size) (hnews : ∀ j u, news[j]? = some u → w.cell? (ad.add j) = some u) (h1 : ∀ u ∈ news, u.oneCell' = true)
    (h63 : n + 1 ≤ maxLen) (h48 : (n + (n + 768) / 4 + 512) * bytes ≤ 281474976710656) (hbase : base ≤ w.heap.size)
    (h : ∀ g cap w', w'.ownsRow base e size (.slice (some ⟨g, 0, none⟩) (n + 1) cap) (n + 1) (xs ++ news) → ((v.ownBlock = some g ∧ w.grownBy w' (some g)) ∨ (g = w.heap.size ∧ w.grownBy w' none)) → wpList P ops Q rest (a.put o.dst (.slice (some ⟨g, 0, none⟩) (n + 1) cap)) w') : wpList P ops Q (o :: rest) a w := by
  refine wpList_plain hgd fun _ hK => ?_
  obtain ⟨g, cap, w', hr, h2, h3⟩ := run_append_y (P := P) w t o.type base e i z size bytes ht hi hz hsize hby hzs v n xs hown ad c news hl hnews h1 h63 h48 hbase
  unfold Oper.wp execOp
  simp only [ho, resolve, invoke, builtin, Sem.run_bind, Sem.run_pure, Result.andThen_ok, List.map_toArray, List.map_cons, List.map_nil, hs, hx, hr]
  exact hK _ _ (h g cap w' h2 h3)

end

end Go.Proofs.Ytgpplekabohneaa.B0

namespace Go.Proofs.Ytgpplekabohneaa.B0
open Go.RowKit

def nilS : Value := .slice none 0 0

/-- the cells of the statement's world -/
def wcells (bv mv zv : Value) (c : Nat) : Array Value := #[bv, nilS, nilS, nilS, mv, zv, nilS, nilS, nilS, nilS, .int .i64 c]

def boxCells (bs : List (Nat × Nat × List Ten)) : List Value := bs.flatMap fun x => [.pointer (some ⟨x.1, 0, none⟩), .pointer (some ⟨x.2.1, 0, none⟩)]

/-- the cells of a mapping that its owner wrote over with the mark c -/
def markCells (c : Nat) : List Value := [.int .i64 (-(c : Int)), .int .i64 0, .int .i64 0, .int .i64 c, .slice none 0 0, .int .i64 0, .int .i64 0]

/-- n of them -/
def marksOf (c : Nat) : Nat → List Value
  | 0 => []
  | n + 1 => marksOf c n ++ markCells c

theorem marksOf_length (c n : Nat) : (marksOf c n).length = n * 7 := by
  induction n with
  | zero => rfl
  | succ n ih => simp [marksOf, ih, markCells]; omega

theorem marksOf_at (c : Nat) : ∀ (n i o : Nat) (v : Value), i < n → (markCells c)[o]? = some v → (marksOf c n)[i * 7 + o]? = some v
  | n + 1, i, o, v, hi, hv => by
    have ho : o < 7 := by
      have := (List.getElem?_eq_some_iff.1 hv).1
      simpa [markCells] using this
    by_cases h : i < n
    · rw [marksOf, List.getElem?_append_left (by rw [marksOf_length]; omega)]
      exact marksOf_at c n i o v h hv
    · have e : i = n := by omega
      subst e
      rw [marksOf, List.getElem?_append_right (by rw [marksOf_length]; omega), marksOf_length]
      rw [show i * 7 + o - i * 7 = o by omega]
      exact hv

/-- the values lie in two rows, if they lie in any -/
def Dis (a b : Value) : Prop := ∀ k, a.ownBlock = some k → b.ownBlock ≠ some k
theorem Dis.symm {a b : Value} (h : Dis a b) : Dis b a := fun k hb ha => h k ha hb

/-- none of the four rows, nor the world's own block -/
def Free (wb : Nat) (bv mv zv l : Value) (k : Nat) : Prop := k ≠ wb ∧ bv.ownBlock ≠ some k ∧ mv.ownBlock ≠ some k ∧ zv.ownBlock ≠ some k ∧ l.ownBlock ≠ some k

/-- a list of at most n mappings, each with the mark c, in a block of T -/
def Mark (w : World) (T : Nat → Prop) (v : Value) (c n : Nat) : Prop :=
  v = nilS ∨ ∃ g m cap, v = .slice (some ⟨g, 0, none⟩) m cap ∧ m ≤ n ∧ m ≤ cap ∧ cap ≤ maxLen ∧ T g ∧ g < w.heap.size ∧
    ∀ i o u, i < m → (markCells c)[o]? = some u → w.cell? ⟨g, i * 7 + o, none⟩ = some u

theorem Mark.keep {w w' : World} {T T' : Nat → Prop} {v : Value} {c n n' : Nat} (h : Mark w T v c n) (hn : n ≤ n') (hsz : w.heap.size ≤ w'.heap.size) (hT : ∀ k, T k → k < w.heap.size → T' k) (hk : ∀ k, T k → k < w.heap.size → w'.heap[k]? = w.heap[k]?) : Mark w' T' v c n' := by
  rcases h with h | ⟨g, m, cap, h1, h2, h3, h4, h5, h6, h7⟩
  · exact .inl h
  · exact .inr ⟨g, m, cap, h1, by omega, h3, h4, hT _ h5 h6, by omega, fun i o u hi hu => (World.cell?_of_block (a := ⟨g, i * 7 + o, none⟩) (hk _ h5 h6)).trans (h7 i o u hi hu)⟩

/-- a row of marks is such a list -/
theorem Mark.of_owns {w : World} {B : Nat} {T : Nat → Prop} {v : Value} {c n : Nat} (h : w.ownsRow B 52 7 v n (marksOf c n)) (hT : ∀ k, v.ownBlock = some k → T k) : Mark w T v c n := by
  rcases h.2 with ⟨h1, _⟩ | ⟨g, cap, cur, h1, hbg, hg, hnc, hcm, hcs, htake⟩
  · exact .inl h1
  · subst h1
    refine .inr ⟨g, n, cap, rfl, Nat.le_refl _, hnc, hcm, hT g rfl, (Array.getElem?_eq_some_iff.1 hg).1, fun i o u hi hu => ?_⟩
    have := h.cells (g := g) rfl _ _ (marksOf_at c n i o u hi hu)
    have hadd : (⟨g, 0, none⟩ : Addr).add (i * 7 + o) = ⟨g, i * 7 + o, none⟩ := by unfold Addr.add; split <;> simp_all
    rwa [hadd] at this

/-- what the statement's world holds: its boxes, the lists that came out (those that come just now are 'nw', cut from the list l) -/
structure TabInv (w : World) (B wb : Nat) (bs : List (Nat × Nat × List Ten)) (bv mv zv l : Value) (ys nw : List Value) (cs : List Nat) (c kz kl : Nat) : Prop where
  blk : w.heap[wb]? = some (.cells (wcells bv mv zv c) 70 (0, 0))
  base : B ≤ wb
  bown : w.ownsRow B 94 2 bv bs.length (boxCells bs)
  mown : w.ownsRow B 43 1 mv (ys.length + nw.length) (ys ++ nw)
  zown : w.ownsRow B 3 1 zv (ys.length + kz) ((cs ++ List.replicate kz c).map fun x : Nat => Value.int .i64 (x : Int))
  lown : w.ownsRow B 52 7 l kl (marksOf c kl)
  len : cs.length = ys.length
  nb : bs.length ≤ 8
  wbv : bv.ownBlock ≠ some wb
  wmv : mv.ownBlock ≠ some wb
  wzv : zv.ownBlock ≠ some wb
  wlv : l.ownBlock ≠ some wb
  bm : Dis bv mv
  bz : Dis bv zv
  bl : Dis bv l
  mz : Dis mv zv
  ml : Dis mv l
  zl : Dis zv l
  pboxes : ∀ x ∈ bs, ProgBox w (Free wb bv mv zv l) x.1 x.2.2
  rboxes : ∀ x ∈ bs, RefBox w (Free wb bv mv zv l) x.2.1 x.2.2
  marks : ∀ i (h : i < ys.length) (h' : i < cs.length), Mark w (Free wb bv mv zv l) ys[i] cs[i] 4
  news : ∀ v ∈ nw, Mark w (Free wb bv mv zv nilS) v c kl
  small : ∀ x ∈ cs, x ≤ c

/-- between two steps -/
def Inv (w : World) (B wb : Nat) (bs : List (Nat × Nat × List Ten)) (bv mv zv : Value) (ys : List Value) (cs : List Nat) (c : Nat) : Prop :=
  TabInv w B wb bs bv mv zv nilS ys [] cs c 0 0 ∧ ys.length ≤ 4 * c

/-- nothing old has turned -/
theorem TabInv.below {w w' : World} {B wb : Nat} {bs : List (Nat × Nat × List Ten)} {bv mv zv l : Value} {ys nw : List Value} {cs : List Nat} {c kz kl : Nat} (h : TabInv w B wb bs bv mv zv l ys nw cs c kz kl) (hb : Below w.heap.size w w') : TabInv w' B wb bs bv mv zv l ys nw cs c kz kl where
  blk := (hb.block wb (Array.getElem?_eq_some_iff.1 h.blk).1).trans h.blk
  base := h.base
  bown := ownsRow_of_below h.bown hb
  mown := ownsRow_of_below h.mown hb
  zown := ownsRow_of_below h.zown hb
  lown := ownsRow_of_below h.lown hb
  len := h.len
  nb := h.nb
  wbv := h.wbv
  wmv := h.wmv
  wzv := h.wzv
  wlv := h.wlv
  bm := h.bm
  bz := h.bz
  bl := h.bl
  mz := h.mz
  ml := h.ml
  zl := h.zl
  pboxes := fun x hx => (h.pboxes x hx).keep hb.size (fun _ h _ => h) (fun k _ hk => hb.block k hk)
  rboxes := fun x hx => (h.rboxes x hx).keep hb.size (fun _ h _ => h) (fun k _ hk => hb.block k hk)
  marks := fun i h1 h2 => (h.marks i h1 h2).keep (Nat.le_refl _) hb.size (fun _ h _ => h) (fun k _ hk => hb.block k hk)
  news := fun v hv => (h.news v hv).keep (Nat.le_refl _) hb.size (fun _ h _ => h) (fun k _ hk => hb.block k hk)
  small := h.small

theorem Inv.below {w w' : World} {B wb : Nat} {bs : List (Nat × Nat × List Ten)} {bv mv zv : Value} {ys : List Value} {cs : List Nat} {c : Nat} (h : Inv w B wb bs bv mv zv ys cs c) (hb : Below w.heap.size w w') : Inv w' B wb bs bv mv zv ys cs c := ⟨h.1.below hb, h.2⟩

theorem ownsRow_of_block {w w' : World} {base e size n : Nat} {v : Value} {xs : List Value} (h : w.ownsRow base e size v n xs) (hk : ∀ k, v.ownBlock = some k → w'.heap[k]? = w.heap[k]?) : w'.ownsRow base e size v n xs := by
  refine ⟨h.1, ?_⟩
  rcases h.2 with hn | ⟨g, cap, cur, rfl, hb, hgg, rest⟩
  · exact .inl hn
  · exact .inr ⟨g, cap, cur, rfl, hb, (hk g rfl).trans hgg, rest⟩

/-- where the row lies that was appended to -/
theorem new_x {W w5 : World} {v : Value} {g : Nat} (hgr : (v.ownBlock = some g ∧ W.grownBy w5 (some g)) ∨ (g = W.heap.size ∧ W.grownBy w5 none)) {k : Nat} (hk : k < W.heap.size) (hne : v.ownBlock ≠ some k) : g ≠ k := by
  rcases hgr with ⟨h1, _⟩ | ⟨h1, _⟩
  · intro e
    exact hne (by rw [h1, e])
  · omega

section
variable {W w5 : World} {B wb : Nat} {bs : List (Nat × Nat × List Ten)} {bv mv zv l : Value} {ys nw : List Value} {cs : List Nat} {c kz kl g cap : Nat}

/-- a list more among the mappings -/
theorem TabInv.stepM (h : TabInv W B wb bs bv mv zv l ys nw cs c kz kl)
    (hown : w5.ownsRow B 43 1 (.slice (some ⟨g, 0, none⟩) (ys.length + nw.length + 1) cap) (ys.length + nw.length + 1) (ys ++ nw ++ [l]))
    (hgr : (mv.ownBlock = some g ∧ W.grownBy w5 (some g)) ∨ (g = W.heap.size ∧ W.grownBy w5 none)) :
    TabInv (w5.setCell ⟨wb, 4, none⟩ (.slice (some ⟨g, 0, none⟩) (ys.length + nw.length + 1) cap)) B wb bs bv (.slice (some ⟨g, 0, none⟩) (ys.length + nw.length + 1) cap) zv l ys (nw ++ [l]) cs c kz kl ∧
      Below B W (w5.setCell ⟨wb, 4, none⟩ (.slice (some ⟨g, 0, none⟩) (ys.length + nw.length + 1) cap)) := by
  have hwb := (Array.getElem?_eq_some_iff.1 h.blk).1
  have hsz := size_x hgr
  have hn : ∀ k, k < W.heap.size → mv.ownBlock ≠ some k → g ≠ k := fun k hk hne => new_x hgr hk hne
  have e0 : ∀ (u : Value) (k : Nat), k < W.heap.size → k ≠ wb → mv.ownBlock ≠ some k → (w5.setCell ⟨wb, 4, none⟩ u).heap[k]? = W.heap[k]? := fun u k h1 h2 h3 => (Below.heap_setCell w5 _ u k h2).trans (kept_x hgr h1 h3)
  have hwb5 : w5.heap[wb]? = some (.cells (wcells bv mv zv c) 70 (0, 0)) := (kept_x hgr hwb h.wmv).trans h.blk
  have hs6 : ∀ u, (w5.setCell ⟨wb, 4, none⟩ u).heap.size = w5.heap.size := fun u => by simp [World.setCell]
  have hfree : ∀ (x : Value) k, Free wb bv mv zv x k → k < W.heap.size → Free wb bv (.slice (some ⟨g, 0, none⟩) (ys.length + nw.length + 1) cap) zv x k := fun x k hf hk => ⟨hf.1, hf.2.1, fun e => hn k hk hf.2.2.1 (by simpa [Value.ownBlock] using e), hf.2.2.2⟩
  have hkeep : ∀ (u x : Value) (k : Nat), Free wb bv mv zv x k → k < W.heap.size → (w5.setCell ⟨wb, 4, none⟩ u).heap[k]? = W.heap[k]? := fun u x k hf hk => e0 u k hk hf.1 hf.2.2.1
  refine ⟨⟨?_, h.base, ?_, ?_, ?_, ?_, h.len, h.nb, h.wbv, ?_, h.wzv, h.wlv, ?_, h.bz, h.bl, ?_, ?_, h.zl, ?_, ?_, ?_, ?_, h.small⟩, ?_⟩
  · simp [World.setCell, Array.getElem?_modify, hwb5, wcells]
  · exact ownsRow_of_block h.bown (fun k hk => e0 _ k (h.bown.lt k hk).2 (fun e => h.wbv (by rw [hk, e])) (h.bm k hk))
  · have e1 : ys.length + (nw ++ [l]).length = ys.length + nw.length + 1 := by simp; omega
    rw [e1, ← List.append_assoc]
    exact ownsRow_of_block hown (fun k hk => Below.heap_setCell w5 _ _ k (fun e => by
      have : g = k := by simpa [Value.ownBlock] using hk
      exact hn wb hwb h.wmv (this.trans e)))
  · exact ownsRow_of_block h.zown (fun k hk => e0 _ k (h.zown.lt k hk).2 (fun e => h.wzv (by rw [hk, e])) (h.mz.symm k hk))
  · exact ownsRow_of_block h.lown (fun k hk => e0 _ k (h.lown.lt k hk).2 (fun e => h.wlv (by rw [hk, e])) (h.ml.symm k hk))
  · intro e
    exact hn wb hwb h.wmv (by simpa [Value.ownBlock] using e)
  · intro k hk e
    exact hn k (h.bown.lt k hk).2 (h.bm k hk) (by simpa [Value.ownBlock] using e)
  · exact Dis.symm (fun k hk e => hn k (h.zown.lt k hk).2 (h.mz.symm k hk) (by simpa [Value.ownBlock] using e))
  · exact Dis.symm (fun k hk e => hn k (h.lown.lt k hk).2 (h.ml.symm k hk) (by simpa [Value.ownBlock] using e))
  · exact fun x hx => (h.pboxes x hx).keep (by rw [hs6]; exact hsz) (hfree l) (hkeep _ l)
  · exact fun x hx => (h.rboxes x hx).keep (by rw [hs6]; exact hsz) (hfree l) (hkeep _ l)
  · exact fun i h1 h2 => (h.marks i h1 h2).keep (Nat.le_refl _) (by rw [hs6]; exact hsz) (hfree l) (hkeep _ l)
  · intro v hv
    rcases List.mem_append.1 hv with hv | hv
    · exact (h.news v hv).keep (Nat.le_refl _) (by rw [hs6]; exact hsz) (hfree nilS) (hkeep _ nilS)
    · simp at hv
      subst hv
      have := Mark.of_owns (T := Free wb bv mv zv nilS) h.lown (fun k hk => ⟨fun e => h.wlv (by rw [hk, e]), h.bl.symm k hk, h.ml.symm k hk, h.zl.symm k hk, by simp [nilS, Value.ownBlock]⟩)
      exact this.keep (Nat.le_refl _) (by rw [hs6]; exact hsz) (hfree nilS) (hkeep _ nilS)
  · exact (below_x hgr (by have := h.base; omega) (fun k hk => (h.mown.lt k hk).1)).setCell h.base _

/-- its mark -/
theorem TabInv.stepZ (h : TabInv W B wb bs bv mv zv l ys nw cs c kz kl)
    (hown : w5.ownsRow B 3 1 (.slice (some ⟨g, 0, none⟩) (ys.length + kz + 1) cap) (ys.length + kz + 1) (((cs ++ List.replicate kz c).map fun x : Nat => Value.int .i64 (x : Int)) ++ [.int .i64 c]))
    (hgr : (zv.ownBlock = some g ∧ W.grownBy w5 (some g)) ∨ (g = W.heap.size ∧ W.grownBy w5 none)) :
    TabInv (w5.setCell ⟨wb, 5, none⟩ (.slice (some ⟨g, 0, none⟩) (ys.length + kz + 1) cap)) B wb bs bv mv (.slice (some ⟨g, 0, none⟩) (ys.length + kz + 1) cap) l ys nw cs c (kz + 1) kl ∧
      Below B W (w5.setCell ⟨wb, 5, none⟩ (.slice (some ⟨g, 0, none⟩) (ys.length + kz + 1) cap)) := by
  have hwb := (Array.getElem?_eq_some_iff.1 h.blk).1
  have hsz := size_x hgr
  have hn : ∀ k, k < W.heap.size → zv.ownBlock ≠ some k → g ≠ k := fun k hk hne => new_x hgr hk hne
  have e0 : ∀ (u : Value) (k : Nat), k < W.heap.size → k ≠ wb → zv.ownBlock ≠ some k → (w5.setCell ⟨wb, 5, none⟩ u).heap[k]? = W.heap[k]? := fun u k h1 h2 h3 => (Below.heap_setCell w5 _ u k h2).trans (kept_x hgr h1 h3)
  have hwb5 : w5.heap[wb]? = some (.cells (wcells bv mv zv c) 70 (0, 0)) := (kept_x hgr hwb h.wzv).trans h.blk
  have hs6 : ∀ u, (w5.setCell ⟨wb, 5, none⟩ u).heap.size = w5.heap.size := fun u => by simp [World.setCell]
  have hfree : ∀ (x : Value) k, Free wb bv mv zv x k → k < W.heap.size → Free wb bv mv (.slice (some ⟨g, 0, none⟩) (ys.length + kz + 1) cap) x k := fun x k hf hk => ⟨hf.1, hf.2.1, hf.2.2.1, fun e => hn k hk hf.2.2.2.1 (by simpa [Value.ownBlock] using e), hf.2.2.2.2⟩
  have hkeep : ∀ (u x : Value) (k : Nat), Free wb bv mv zv x k → k < W.heap.size → (w5.setCell ⟨wb, 5, none⟩ u).heap[k]? = W.heap[k]? := fun u x k hf hk => e0 u k hk hf.1 hf.2.2.2.1
  refine ⟨⟨?_, h.base, ?_, ?_, ?_, ?_, h.len, h.nb, h.wbv, h.wmv, ?_, h.wlv, h.bm, ?_, h.bl, ?_, h.ml, ?_, ?_, ?_, ?_, ?_, h.small⟩, ?_⟩
  · simp [World.setCell, Array.getElem?_modify, hwb5, wcells]
  · exact ownsRow_of_block h.bown (fun k hk => e0 _ k (h.bown.lt k hk).2 (fun e => h.wbv (by rw [hk, e])) (h.bz k hk))
  · exact ownsRow_of_block h.mown (fun k hk => e0 _ k (h.mown.lt k hk).2 (fun e => h.wmv (by rw [hk, e])) (h.mz k hk))
  · have e2 : ((cs ++ List.replicate (kz + 1) c).map fun x : Nat => Value.int .i64 (x : Int)) = ((cs ++ List.replicate kz c).map fun x : Nat => Value.int .i64 (x : Int)) ++ [.int .i64 c] := by
      rw [List.replicate_succ', ← List.append_assoc, List.map_append]
      rfl
    rw [e2]
    exact ownsRow_of_block hown (fun k hk => Below.heap_setCell w5 _ _ k (fun e => by
      have : g = k := by simpa [Value.ownBlock] using hk
      exact hn wb hwb h.wzv (this.trans e)))
  · exact ownsRow_of_block h.lown (fun k hk => e0 _ k (h.lown.lt k hk).2 (fun e => h.wlv (by rw [hk, e])) (h.zl.symm k hk))
  · intro e
    exact hn wb hwb h.wzv (by simpa [Value.ownBlock] using e)
  · intro k hk e
    exact hn k (h.bown.lt k hk).2 (h.bz k hk) (by simpa [Value.ownBlock] using e)
  · intro k hk e
    exact hn k (h.mown.lt k hk).2 (h.mz k hk) (by simpa [Value.ownBlock] using e)
  · exact Dis.symm (fun k hk e => hn k (h.lown.lt k hk).2 (h.zl.symm k hk) (by simpa [Value.ownBlock] using e))
  · exact fun x hx => (h.pboxes x hx).keep (by rw [hs6]; exact hsz) (hfree l) (hkeep _ l)
  · exact fun x hx => (h.rboxes x hx).keep (by rw [hs6]; exact hsz) (hfree l) (hkeep _ l)
  · exact fun i h1 h2 => (h.marks i h1 h2).keep (Nat.le_refl _) (by rw [hs6]; exact hsz) (hfree l) (hkeep _ l)
  · exact fun v hv => (h.news v hv).keep (Nat.le_refl _) (by rw [hs6]; exact hsz) (hfree nilS) (hkeep _ nilS)
  · exact (below_x hgr (by have := h.base; omega) (fun k hk => (h.zown.lt k hk).1)).setCell h.base _

/-- the list grows by one that bears the mark -/
theorem TabInv.stepL (h : TabInv W B wb bs bv mv zv l ys nw cs c kz kl)
    (hown : w5.ownsRow B 52 7 (.slice (some ⟨g, 0, none⟩) (kl + 1) cap) (kl + 1) (marksOf c kl ++ markCells c))
    (hgr : (l.ownBlock = some g ∧ W.grownBy w5 (some g)) ∨ (g = W.heap.size ∧ W.grownBy w5 none)) :
    TabInv w5 B wb bs bv mv zv (.slice (some ⟨g, 0, none⟩) (kl + 1) cap) ys nw cs c kz (kl + 1) ∧ Below B W w5 := by
  have hwb := (Array.getElem?_eq_some_iff.1 h.blk).1
  have hsz := size_x hgr
  have hn : ∀ k, k < W.heap.size → l.ownBlock ≠ some k → g ≠ k := fun k hk hne => new_x hgr hk hne
  have e0 : ∀ (k : Nat), k < W.heap.size → l.ownBlock ≠ some k → w5.heap[k]? = W.heap[k]? := fun k h1 h3 => kept_x hgr h1 h3
  have hfree : ∀ k, Free wb bv mv zv l k → k < W.heap.size → Free wb bv mv zv (.slice (some ⟨g, 0, none⟩) (kl + 1) cap) k := fun k hf hk => ⟨hf.1, hf.2.1, hf.2.2.1, hf.2.2.2.1, fun e => hn k hk hf.2.2.2.2 (by simpa [Value.ownBlock] using e)⟩
  have hkeep : ∀ (k : Nat), Free wb bv mv zv l k → k < W.heap.size → w5.heap[k]? = W.heap[k]? := fun k hf hk => e0 k hk hf.2.2.2.2
  have hlown5 : w5.ownsRow B 52 7 (.slice (some ⟨g, 0, none⟩) (kl + 1) cap) (kl + 1) (marksOf c (kl + 1)) := hown
  refine ⟨⟨?_, h.base, ?_, ?_, ?_, hlown5, h.len, h.nb, h.wbv, h.wmv, h.wzv, ?_, h.bm, h.bz, ?_, h.mz, ?_, ?_, ?_, ?_, ?_, ?_, h.small⟩, ?_⟩
  · exact (e0 wb hwb h.wlv).trans h.blk
  · exact ownsRow_of_block h.bown (fun k hk => e0 k (h.bown.lt k hk).2 (h.bl k hk))
  · exact ownsRow_of_block h.mown (fun k hk => e0 k (h.mown.lt k hk).2 (h.ml k hk))
  · exact ownsRow_of_block h.zown (fun k hk => e0 k (h.zown.lt k hk).2 (h.zl k hk))
  · intro e
    exact hn wb hwb h.wlv (by simpa [Value.ownBlock] using e)
  · intro k hk e
    exact hn k (h.bown.lt k hk).2 (h.bl k hk) (by simpa [Value.ownBlock] using e)
  · intro k hk e
    exact hn k (h.mown.lt k hk).2 (h.ml k hk) (by simpa [Value.ownBlock] using e)
  · intro k hk e
    exact hn k (h.zown.lt k hk).2 (h.zl k hk) (by simpa [Value.ownBlock] using e)
  · exact fun x hx => (h.pboxes x hx).keep hsz hfree hkeep
  · exact fun x hx => (h.rboxes x hx).keep hsz hfree hkeep
  · exact fun i h1 h2 => (h.marks i h1 h2).keep (Nat.le_refl _) hsz hfree hkeep
  · intro v hv
    rcases h.news v hv with hv | ⟨g2, m, cap2, h1, h2, h3, h4, h5, h6, h7⟩
    · exact .inl hv
    · refine .inr ⟨g2, m, cap2, h1, by omega, h3, h4, h5, by omega, fun i o u hi hu => ?_⟩
      by_cases hl : l.ownBlock = some g2
      · rcases hgr with ⟨hg1, _⟩ | ⟨_, hg2⟩
        · have e : g = g2 := by rw [hg1] at hl; simpa using hl
          subst e
          have := hlown5.cells (g := g) rfl _ _ (marksOf_at c (kl + 1) i o u (by omega) hu)
          have hadd : (⟨g, 0, none⟩ : Addr).add (i * 7 + o) = ⟨g, i * 7 + o, none⟩ := by unfold Addr.add; split <;> simp_all
          rwa [hadd] at this
        · exact (World.cell?_of_block (a := ⟨g2, i * 7 + o, none⟩) (hg2.block g2 h6 (by simp))).trans (h7 i o u hi hu)
      · exact (World.cell?_of_block (a := ⟨g2, i * 7 + o, none⟩) (e0 g2 h6 hl)).trans (h7 i o u hi hu)
  · exact below_x hgr (by have := h.base; omega) (fun k hk => (h.lown.lt k hk).1)

end

end Go.Proofs.Ytgpplekabohneaa.B0

namespace Go.Proofs.Ytgpplekabohneaa.B0
open Go.RowKit

attribute [local go_sem ↓] Go.wp_at_zero Go.wp_at_succ

theorem info43 : (Try.prog.info? 43).map (fun i => (i.zero, i.size, i.bytes)) = some (some (.slice none 0 0), 1, 24) := by kernel_rfl
theorem info3 : (Try.prog.info? 3).map (fun i => (i.zero, i.size, i.bytes)) = some (some (.int .i64 0), 1, 8) := by kernel_rfl

section
variable {W w5 : World} {B wb : Nat} {bs : List (Nat × Nat × List Ten)} {bv mv zv l : Value} {ys nw : List Value} {cs : List Nat} {c kz kl g cap : Nat}

/-- the count goes up by one -/
theorem TabInv.count (h : TabInv W B wb bs bv mv zv l ys [] cs c 0 0) :
    TabInv (W.setCell ⟨wb, 10, none⟩ (.int .i64 ((c : Int) + 1))) B wb bs bv mv zv l ys [] cs (c + 1) 0 0 ∧ Below B W (W.setCell ⟨wb, 10, none⟩ (.int .i64 ((c : Int) + 1))) := by
  have hwb := (Array.getElem?_eq_some_iff.1 h.blk).1
  have e0 : ∀ (k : Nat), k ≠ wb → (W.setCell ⟨wb, 10, none⟩ (.int .i64 ((c : Int) + 1))).heap[k]? = W.heap[k]? := fun k h2 => Below.heap_setCell W _ _ k h2
  have hs6 : (W.setCell ⟨wb, 10, none⟩ (.int .i64 ((c : Int) + 1))).heap.size = W.heap.size := by simp [World.setCell]
  have hkeep : ∀ (k : Nat), Free wb bv mv zv l k → k < W.heap.size → (W.setCell ⟨wb, 10, none⟩ (.int .i64 ((c : Int) + 1))).heap[k]? = W.heap[k]? := fun k hf _ => e0 k hf.1
  refine ⟨⟨?_, h.base, ?_, ?_, ?_, ?_, h.len, h.nb, h.wbv, h.wmv, h.wzv, h.wlv, h.bm, h.bz, h.bl, h.mz, h.ml, h.zl, ?_, ?_, ?_, ?_, fun x hx => Nat.le_succ_of_le (h.small x hx)⟩, (Below.refl _ _).setCell h.base _⟩
  · simp [World.setCell, Array.getElem?_modify, h.blk, wcells]
  · exact ownsRow_of_block h.bown (fun k hk => e0 k (fun e => h.wbv (by rw [hk, e])))
  · exact ownsRow_of_block h.mown (fun k hk => e0 k (fun e => h.wmv (by rw [hk, e])))
  · have := ownsRow_of_block h.zown (fun k hk => e0 k (fun e => h.wzv (by rw [hk, e])))
    simpa using this
  · exact ownsRow_of_block h.lown (fun k hk => e0 k (fun e => h.wlv (by rw [hk, e])))
  · exact fun x hx => (h.pboxes x hx).keep (by rw [hs6]; exact Nat.le_refl _) (fun _ h _ => h) hkeep
  · exact fun x hx => (h.rboxes x hx).keep (by rw [hs6]; exact Nat.le_refl _) (fun _ h _ => h) hkeep
  · exact fun i h1 h2 => (h.marks i h1 h2).keep (Nat.le_refl _) (by rw [hs6]; exact Nat.le_refl _) (fun _ h _ => h) hkeep
  · simp

/-- the cells that the walk reads -/
theorem TabInv.cells (h : TabInv W B wb bs bv mv zv l ys nw cs c kz kl) :
    W.cell? ⟨wb, 0, none⟩ = some bv ∧ W.cell? ⟨wb, 4, none⟩ = some mv ∧ W.cell? ⟨wb, 5, none⟩ = some zv ∧ W.cell? ⟨wb, 10, none⟩ = some (.int .i64 c) ∧ ∀ o, W.frozen? ⟨wb, o, none⟩ = false := by
  refine ⟨?_, ?_, ?_, ?_, fun o => ?_⟩
  · simp [World.cell?, h.blk, wcells]
  · simp [World.cell?, h.blk, wcells]
  · simp [World.cell?, h.blk, wcells]
  · simp [World.cell?, h.blk, wcells]
  · simp [World.frozen?, h.blk]

theorem TabInv.lform (h : TabInv W B wb bs bv mv zv l ys nw cs c kz kl) : ∃ lp cap, l = .slice lp kl cap := by
  rcases h.lown.2 with ⟨h1, h2⟩ | ⟨g, cap, cur, h1, _⟩
  · exact ⟨none, 0, by rw [h1, h2]⟩
  · exact ⟨_, cap, h1⟩
end

/-- what stands between two rounds of the last loop of 'table' -/
def TabRel (w : World) (B wb : Nat) (bs : List (Nat × Nat × List Ten)) (bv : Value) (ys : List Value) (cs : List Nat) (c xb k : Nat) (l : Value) (wr : World) : Prop :=
  ∃ mv zv nw, nw.length = k ∧ TabInv wr B wb bs bv mv zv l ys nw cs c k k ∧ wr.heap[xb]? = some (.cells (markCells c).toArray 52 (0, 0)) ∧ Free wb bv mv zv l xb ∧ Below B w wr

theorem inv_of_tab {W : World} {B wb : Nat} {bs : List (Nat × Nat × List Ten)} {bv mv zv l : Value} {ys nw : List Value} {cs : List Nat} {c : Nat} (h : TabInv W B wb bs bv mv zv l ys nw cs (c + 1) 4 4) (hn : nw.length = 4) (hfew : ys.length ≤ 4 * c) :
    Inv W B wb bs bv mv zv (ys ++ nw) (cs ++ List.replicate 4 (c + 1)) (c + 1) := by
  have hfree : ∀ k, Free wb bv mv zv l k → k < W.heap.size → Free wb bv mv zv nilS k := fun k hf _ => ⟨hf.1, hf.2.1, hf.2.2.1, hf.2.2.2.1, by simp [nilS, Value.ownBlock]⟩
  have hnil : ∀ (v : Value), Dis v nilS := fun v k _ e => by simp [nilS, Value.ownBlock] at e
  have hlen : (ys ++ nw).length = ys.length + 4 := by simp [hn]
  refine ⟨⟨h.blk, h.base, h.bown, ?_, ?_, World.ownsRow_nil _ _ _ _, by simp [h.len, hn], h.nb, h.wbv, h.wmv, h.wzv, by simp [nilS, Value.ownBlock], h.bm, h.bz, hnil _, h.mz, hnil _, hnil _, ?_, ?_, ?_, by simp, ?_⟩, by rw [hlen]; omega⟩
  · have := h.mown
    simpa using this
  · have := h.zown
    rw [hlen]
    simpa using this
  · exact fun x hx => (h.pboxes x hx).keep (Nat.le_refl _) hfree (fun _ _ _ => rfl)
  · exact fun x hx => (h.rboxes x hx).keep (Nat.le_refl _) hfree (fun _ _ _ => rfl)
  · intro i h1 h2
    by_cases hi : i < ys.length
    · rw [List.getElem_append_left hi, List.getElem_append_left (by rw [h.len]; exact hi)]
      exact (h.marks i hi (by rw [h.len]; exact hi)).keep (Nat.le_refl _) (Nat.le_refl _) hfree (fun _ _ _ => rfl)
    · rw [List.getElem_append_right (by omega), List.getElem_append_right (by rw [h.len]; omega), List.getElem_replicate]
      exact h.news _ (List.getElem_mem _)
  · intro x hx
    rcases List.mem_append.1 hx with hx | hx
    · exact h.small x hx
    · exact Nat.le_of_eq (List.eq_of_mem_replicate hx)

set_option maxRecDepth 100000 in
set_option maxHeartbeats 1000000 in
theorem wtable_any (w : World) (B wb : Nat) (bs : List (Nat × Nat × List Ten)) (bv mv zv : Value) (ys : List Value) (cs : List Nat) (c : Nat) (lp : Option Addr) (l0 : Nat)
    (h : TabInv w B wb bs bv mv zv (.slice lp 0 l0) ys [] cs c 0 0) (hfew : ys.length ≤ 4 * c) (hc : c ≤ 1760000000000) :
    Calls Try.prog 57 #[.pointer (some ⟨wb, 0, none⟩), .slice lp 0 l0] w fun e w' => e = .returned (.tuple #[]) ∧ Below B w w' ∧ ∃ mv' zv' ys' cs', Inv w' B wb bs bv mv' zv' ys' cs' (c + 1) := by
  obtain ⟨-, -, -, c10, hfz⟩ := h.cells
  have f10 := hfz 10
  have H := hide h
  clear h hfz
  go_enter Try.func57, Try.ntmps57
  go_wp2
  go_loopg [4] 1 (fun z i wr => i = .int .i64 0 ∧ wr = w)
  case atStart => exact ⟨rfl, rfl⟩
  case round =>
    obtain ⟨rfl, hwr⟩ := hrel
    have hwr2 := hwr.symm
    subst hwr2
    clear hwr
    go_wp2
    obtain ⟨h1, hb1⟩ := (unhide H).count
    obtain ⟨-, -, -, d10, -⟩ := h1.cells
    clear c10 f10
    generalize w.setCell ⟨wb, 10, none⟩ (Value.int IntKind.i64 ((c : Int) + 1)) = w1 at *
    have H1 := hide h1
    have HB1 := hide hb1
    have n1 := World.new_ne w1 _ d10
    rw [show ((c + 1 : Nat) : Int) = (c : Int) + 1 from by omega] at d10
    clear h1 hb1
    have hwrap : IntKind.i64.wrap (-((c : Int) + 1)) = -((c : Int) + 1) := by rw [IntKind.wrap_i64]; omega
    go_region_held3 (fun w' => w'.cell? ⟨wb, 10, none⟩ = some (.int .i64 ((c : Int) + 1))) (go_keep) (fail)
    clear hwrap d10 n1
    go_wp2
    obtain ⟨mk, hmk⟩ : ∃ mk, mk = w1.heap.size := ⟨_, rfl⟩
    have HR : Hid (TabRel w B wb bs bv ys cs (c + 1) mk 0 (.slice lp 0 l0) (w1.alloc (Obj.cells #[Value.int IntKind.i64 (-((c : Int) + 1)), Value.int IntKind.i64 0, Value.int IntKind.i64 0, Value.int IntKind.i64 ((c : Int) + 1), Value.slice none 0 0, Value.int IntKind.i64 0, Value.int IntKind.i64 0] 52)).drew) := by
      have h1 := unhide H1
      have hlt : ∀ (v : Value) (base e size n : Nat) (xs : List Value), w1.ownsRow base e size v n xs → v.ownBlock ≠ some mk := fun v base e size n xs ho ee => by have := (ho.lt mk ee).2; omega
      refine ⟨mv, zv, [], rfl, h1.below (((Below.refl _ _).alloc (Nat.le_refl _) _).drew), ?_, ⟨?_, hlt _ _ _ _ _ _ h1.bown, hlt _ _ _ _ _ _ h1.mown, hlt _ _ _ _ _ _ h1.zown, hlt _ _ _ _ _ _ h1.lown⟩, ?_⟩
      · show (w1.alloc _).heap[mk]? = _
        rw [blkN w1 _ mk hmk]
        simp [markCells]
      · have := (Array.getElem?_eq_some_iff.1 h1.blk).1
        omega
      · exact ((unhide HB1).alloc (by have := (Array.getElem?_eq_some_iff.1 h1.blk).1; have := h1.base; omega) _).drew
    rw [← hmk]
    generalize (w1.alloc (Obj.cells #[Value.int IntKind.i64 (-((c : Int) + 1)), Value.int IntKind.i64 0, Value.int IntKind.i64 0, Value.int IntKind.i64 ((c : Int) + 1), Value.slice none 0 0, Value.int IntKind.i64 0, Value.int IntKind.i64 0] 52)).drew = w2 at *
    clear H1 HB1 hmk
    go_loopg [6] 1 (fun z i wr => i = .int .i64 0 ∧ wr = w2)
    case atStart => exact ⟨rfl, rfl⟩
    case round =>
      obtain ⟨rfl, hw2⟩ := hrel
      rw [← hw2] at HR
      clear hw2
      go_wp2
      go_loopg [1, 7] 4 (fun z l i wr => ∃ k : Nat, k ≤ 4 ∧ z = 4 - k ∧ i = .int .i64 k ∧ TabRel w B wb bs bv ys cs (c + 1) mk k l wr)
      case atStart => exact ⟨0, by omega, rfl, rfl, unhide HR⟩
      case round =>
        obtain ⟨k, hk, hz, rfl, hrel⟩ := hrel
        have HZ := hide hz
        clear hz HR
        by_cases hk4 : k < 4
        · obtain ⟨mv, zv, nw, hnw, hT, hxb, hfr, hbw⟩ := hrel
          obtain ⟨lq, lc, rfl⟩ := hT.lform
          obtain ⟨-, c4, c5, c10, hfz⟩ := hT.cells
          have hys : ys.length + nw.length + 1 ≤ 7100000000000 := by omega
          have hwbl := (Array.getElem?_eq_some_iff.1 hT.blk).1
          have hBw : B ≤ wr.heap.size := by have := hT.base; omega
          have hxl := (Array.getElem?_eq_some_iff.1 hxb).1
          have f4 := hfz 4
          clear c5 c10 hfz
          obtain ⟨i0, hi, hz0, hz1, hz2⟩ := info_parts info43
          have HI := hide (And.intro hi (And.intro hz0 (And.intro hz1 hz2)))
          have HWM := hide hT.wmv
          have HM := hide (hT.mown.alloc (.cells #[.slice lq k lc] 43))
          have HT := hide hT
          have HX := hide hxb
          have HF := hide hfr
          have HBW := hide hbw
          have HNW := hide hnw
          clear hi hz0 hz1 hz2 hT hxb hfr hbw hnw
          go_wp2_with
            ((at_builtin; refine wpList_append_y _ rfl _ _ _ rfl B 43 i0 _ 1 24 Try.underlying66 (unhide HI).1 (unhide HI).2.1 (unhide HI).2.2.1 (unhide HI).2.2.2 rfl mv (ys.length + nw.length) (ys ++ nw) rfl (unhide HM) ⟨wr.heap.size, 0, none⟩ 1 [.slice lq k lc] rfl rfl (World.news_of_block (by exact blkN wr _ _ rfl)) (by simp [Value.oneCell']) (by unfold maxLen; omega) (by omega) (by simp; omega) ?_; intro g cap5 w5 hown5 hgr5;
              have q5 : w5.heap[wb]? = wr.heap[wb]? := (kept_x hgr5 (by simp; omega) (unhide HWM)).trans (Below.heap_alloc wr _ wb hwbl);
              have c45 := (World.cell?_of_block (a := ⟨wb, 4, none⟩) q5).trans c4;
              have f45 := (World.frozen?_of_block (a := ⟨wb, 4, none⟩) q5).trans f4;
              have HO5 := hide hown5; have HG5 := hide hgr5; clear q5 hown5 hgr5))
          obtain ⟨hT6, hb6⟩ := ((unhide HT).below ((Below.refl _ _).alloc (Nat.le_refl _) (.cells #[.slice lq k lc] 43))).stepM (unhide HO5) (unhide HG5)
          have hx6 : (w5.setCell ⟨wb, 4, none⟩ (Value.slice (some { block := g, off := 0 }) (ys.length + nw.length + 1) cap5)).heap[mk]? = some (.cells (markCells (c + 1)).toArray 52 (0, 0)) :=
            (Below.heap_setCell w5 _ _ mk (unhide HF).1).trans ((kept_x (unhide HG5) (by simp; omega) (unhide HF).2.2.1).trans (blkA (unhide HX)))
          have hf6 : Free wb bv (Value.slice (some { block := g, off := 0 }) (ys.length + nw.length + 1) cap5) zv (Value.slice lq k lc) mk :=
            ⟨(unhide HF).1, (unhide HF).2.1, fun e => new_x (unhide HG5) (by simp; omega) (unhide HF).2.2.1 (by simpa [Value.ownBlock] using e), (unhide HF).2.2.2⟩
          have hbw6 := ((unhide HBW).alloc hBw (.cells #[.slice lq k lc] 43)).trans hb6
          clear HX HF HBW HM HWM HT HO5 HG5 HI c4 f4 c45 f45 hb6 hwbl hxl
          generalize w5.setCell ⟨wb, 4, none⟩ (Value.slice (some { block := g, off := 0 }) (ys.length + nw.length + 1) cap5) = w6 at *
          generalize hmv6 : Value.slice (some { block := g, off := 0 }) (ys.length + nw.length + 1) cap5 = mv6 at hT6 hf6
          clear hmv6
          obtain ⟨-, -, c5, c10, hfz⟩ := hT6.cells
          rw [show ((c + 1 : Nat) : Int) = (c : Int) + 1 from by omega] at c10
          have hwbl := (Array.getElem?_eq_some_iff.1 hT6.blk).1
          have hB6 : B ≤ w6.heap.size := by have := hT6.base; omega
          have hxl := (Array.getElem?_eq_some_iff.1 hx6).1
          have f5 := hfz 5
          have ca5 : ∀ X, (w6.alloc X).cell? ⟨wb, 5, none⟩ = some zv := fun X => cellA c5
          have ca10 : ∀ X, (w6.alloc X).cell? ⟨wb, 10, none⟩ = some (.int .i64 ((c : Int) + 1)) := fun X => cellA c10
          obtain ⟨i0, hi, hz0, hz1, hz2⟩ := info_parts info3
          have HI := hide (And.intro hi (And.intro hz0 (And.intro hz1 hz2)))
          have HWZ := hide hT6.wzv
          have HM := hide (hT6.zown.alloc (.cells #[.int .i64 ((c : Int) + 1)] 3))
          have HT := hide hT6
          have HX := hide hx6
          have HF := hide hf6
          have HBW := hide hbw6
          clear hi hz0 hz1 hz2 hT6 hx6 hf6 hbw6 hfz
          go_region_law
            ((refine step_append_x _ (by rfl) _ _ _ (by rfl) B 3 i0 _ 1 8 Try.underlying50 (unhide HI).1 (unhide HI).2.1 (unhide HI).2.2.1 (unhide HI).2.2.2 rfl (by omega) zv (ys.length + k) _ (by rfl) (by exact unhide HM) ⟨w6.heap.size, 0, none⟩ 1 1 [.int .i64 ((c : Int) + 1)] (by rfl) (by rfl) (World.news_of_block (by exact blkN w6 _ _ rfl)) (by simp [Value.oneCell']) (by omega) (by unfold maxLen; have := unhide HNW; omega) (by have := unhide HNW; omega) (by simp; omega) ?_; intro g7 cap7 w7 hown7 hgr7;
              have q7 : w7.heap[wb]? = w6.heap[wb]? := (kept_x hgr7 (by simp; omega) (unhide HWZ)).trans (Below.heap_alloc w6 _ wb hwbl);
              have c57 := (World.cell?_of_block (a := ⟨wb, 5, none⟩) q7).trans c5;
              have f57 := (World.frozen?_of_block (a := ⟨wb, 5, none⟩) q7).trans f5;
              have HO7 := hide hown7; have HG7 := hide hgr7; clear q7 hown7 hgr7))
          all_goals
            have hO7 := unhide HO7
            rw [← show ((c + 1 : Nat) : Int) = (c : Int) + 1 from by omega] at hO7
            obtain ⟨hT8, hb8⟩ := ((unhide HT).below (((Below.refl _ _).alloc (Nat.le_refl _) (.cells #[.int .i64 ((c : Int) + 1)] 3)).drew)).stepZ hO7 (unhide HG7)
            have hx8 : (w7.setCell ⟨wb, 5, none⟩ (Value.slice (some { block := g7, off := 0 }) (ys.length + k + 1) cap7)).heap[mk]? = some (.cells (markCells (c + 1)).toArray 52 (0, 0)) :=
              (Below.heap_setCell w7 _ _ mk (unhide HF).1).trans ((kept_x (unhide HG7) (by simp; omega) (unhide HF).2.2.2.1).trans (blkA (unhide HX)))
            have hf8 : Free wb bv mv6 (Value.slice (some { block := g7, off := 0 }) (ys.length + k + 1) cap7) (Value.slice lq k lc) mk :=
              ⟨(unhide HF).1, (unhide HF).2.1, (unhide HF).2.2.1, fun e => new_x (unhide HG7) (by simp; omega) (unhide HF).2.2.2.1 (by simpa [Value.ownBlock] using e), (unhide HF).2.2.2.2⟩
            have hbw8 := (((unhide HBW).alloc hB6 (.cells #[.int .i64 ((c : Int) + 1)] 3)).drew).trans hb8
            clear HX HF HBW HM HWZ HT HO7 HG7 HI c5 c10 f5 ca5 ca10 c57 f57 hb8 hwbl hxl hO7
            generalize w7.setCell ⟨wb, 5, none⟩ (Value.slice (some { block := g7, off := 0 }) (ys.length + k + 1) cap7) = w8 at *
            generalize hzv8 : Value.slice (some { block := g7, off := 0 }) (ys.length + k + 1) cap7 = zv8 at hT8 hf8
            clear hzv8
            have hB8 : B ≤ w8.heap.size := by have := hT8.base; have := (Array.getElem?_eq_some_iff.1 hT8.blk).1; omega
            have hxl := (Array.getElem?_eq_some_iff.1 hx8).1
            have e1 : ((c + 1 : Nat) : Int) = (c : Int) + 1 := by omega
            have m0 : w8.cell? ⟨mk, 0, none⟩ = some (.int .i64 (-((c : Int) + 1))) := by simp [World.cell?, hx8, markCells]
            have m1 : w8.cell? ⟨mk, 1, none⟩ = some (.int .i64 0) := by simp [World.cell?, hx8, markCells]
            have m2 : w8.cell? ⟨mk, 2, none⟩ = some (.int .i64 0) := by simp [World.cell?, hx8, markCells]
            have m3 : w8.cell? ⟨mk, 3, none⟩ = some (.int .i64 ((c : Int) + 1)) := by simp [World.cell?, hx8, markCells]
            have m4 : w8.cell? ⟨mk, 4, none⟩ = some (.slice none 0 0) := by simp [World.cell?, hx8, markCells]
            have m5 : w8.cell? ⟨mk, 5, none⟩ = some (.int .i64 0) := by simp [World.cell?, hx8, markCells]
            have m6 : w8.cell? ⟨mk, 6, none⟩ = some (.int .i64 0) := by simp [World.cell?, hx8, markCells]
            clear e1
            obtain ⟨i0, hi, hz0, hz1, hz2⟩ := info_parts info52
            have HI := hide (And.intro hi (And.intro hz0 (And.intro hz1 hz2)))
            have HM := hide (hT8.lown.alloc (.cells #[.int .i64 (-((c : Int) + 1)), .int .i64 0, .int .i64 0, .int .i64 ((c : Int) + 1), .slice none 0 0, .int .i64 0, .int .i64 0] 52))
            have HT := hide hT8
            have HX := hide hx8
            have HF := hide hf8
            have HBW := hide hbw8
            clear hi hz0 hz1 hz2 hT8 hx8 hf8 hbw8
            go_wp2_with
              ((at_builtin; refine wpList_append_x _ rfl _ _ _ rfl B 52 i0 _ 7 72 Try.underlying43 (unhide HI).1 (unhide HI).2.1 (unhide HI).2.2.1 (unhide HI).2.2.2 rfl (by omega) (.slice lq k lc) k _ rfl (unhide HM) ⟨w8.heap.size, 0, none⟩ 1 1 [.int .i64 (-((c : Int) + 1)), .int .i64 0, .int .i64 0, .int .i64 ((c : Int) + 1), .slice none 0 0, .int .i64 0, .int .i64 0] rfl rfl (World.news_of_block (by exact blkN w8 _ _ rfl)) (by simp [Value.oneCell']) (by omega) (by unfold maxLen; omega) (by omega) (by simp; omega) ?_; intro g9 cap9 w9 hown9 hgr9;
                have HO9 := hide hown9; have HG9 := hide hgr9; clear hown9 hgr9))
            go_roundg (4 - (k + 1))
            case measure => have := unhide HZ; omega
            case rel =>
              have hO9 := unhide HO9
              rw [← show ((c + 1 : Nat) : Int) = (c : Int) + 1 from by omega] at hO9
              obtain ⟨hT9, hb9⟩ := ((unhide HT).below ((Below.refl _ _).alloc (Nat.le_refl _) (.cells #[.int .i64 (-((c : Int) + 1)), .int .i64 0, .int .i64 0, .int .i64 ((c : Int) + 1), .slice none 0 0, .int .i64 0, .int .i64 0] 52))).stepL hO9 (unhide HG9)
              refine ⟨k + 1, by omega, rfl, by go_num, mv6, zv8, nw ++ [.slice lq k lc], by have := unhide HNW; simp [this], hT9, ?_, ?_, ?_⟩
              · exact (kept_x (unhide HG9) (by simp; omega) (unhide HF).2.2.2.2).trans (blkA (unhide HX))
              · exact ⟨(unhide HF).1, (unhide HF).2.1, (unhide HF).2.2.1, (unhide HF).2.2.2.1, fun e => new_x (unhide HG9) (by simp; omega) (unhide HF).2.2.2.2 (by simpa [Value.ownBlock] using e)⟩
              · exact ((unhide HBW).alloc hB8 _).trans hb9
        · have hk2 : k = 4 := by omega
          subst hk2
          have HREL := hide hrel
          clear hrel
          go_wp2
          go_end0
          obtain ⟨mv, zv, nw, hnw, hT, hxb, hfr, hbw⟩ := unhide HREL
          exact ⟨rfl, hbw, _, _, _, _, inv_of_tab hT hnw hfew⟩

end Go.Proofs.Ytgpplekabohneaa.B0
