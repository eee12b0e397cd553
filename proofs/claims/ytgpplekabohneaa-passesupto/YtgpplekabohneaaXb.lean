/- The document's box: what it keeps; a mapping more; no peer twice. -/
import Derived.Test.YtgpplekabohneaaKb
import Derived.Test.YtgpplekabohneaaXa
import Derived.Test.YtgpplekabohneaaXz
namespace Go.Proofs.Ytgpplekabohneaa
open Go.RowKit

section
variable {w w' : World} {S X : Nat → Prop} {r : Nat} {tv lv : Value} {ts : List Ten} {L : List RCl}

theorem RefR.keep (h : RefR w S r tv lv ts L) (hF : Fr X w w') (hX : ∀ k, S k → ¬ X k) : RefR w' S r tv lv ts L where
  sr := h.sr
  bound := fun k hk => Nat.lt_of_lt_of_le (h.bound k hk) hF.size
  blk := hF.some h.blk (hX _ h.sr)
  tens := row_keepB h.tens (Nat.le_refl _) hF (fun k hk _ => hX k (h.tS k hk))
  rows := row_keepB h.rows (Nat.le_refl _) hF (fun k hk _ => hX k (h.lS k hk))
  tS := h.tS
  lS := h.lS
  mem := fun x hx => ⟨⟨hF.some (h.mem x hx).1.1 (hX _ (h.mem x hx).2.1), (h.mem x hx).1.2.keep hF.size (fun b hb hl => hF.block b hl (hX b ((h.mem x hx).2.2 b hb)))⟩, (h.mem x hx).2⟩
  apart := h.apart
  nb := h.nb
  few := h.few

theorem RefR.new (h : RefR w S r tv lv ts L) (hb : Below w.heap.size w w') : RefR w' S r tv lv ts L := h.keep (X := fun _ => False) (Fr.of_below hb) (fun _ _ f => f)

theorem RefR.mono {S' : Nat → Prop} (h : RefR w S r tv lv ts L) (h1 : ∀ k, S k → S' k) (h2 : ∀ k, S' k → k < w.heap.size) : RefR w S' r tv lv ts L :=
  { h with sr := h1 _ h.sr, bound := h2, tS := fun k hk => h1 _ (h.tS k hk), lS := fun k hk => h1 _ (h.lS k hk), mem := fun x hx => ⟨(h.mem x hx).1, h1 _ (h.mem x hx).2.1, fun b hb => h1 _ ((h.mem x hx).2.2 b hb)⟩ }

theorem RefR.grown (h : RefR w S r tv lv ts L) (hb : Below w.heap.size w w') : RefR w' (grow S w w') r tv lv ts L := by
  refine (h.new hb).mono (fun k hk => .inl hk) ?_
  rintro k (hk | hk)
  · exact Nat.lt_of_lt_of_le (h.bound k hk) hb.size
  · exact hk.2

def updL (L : List RCl) (g : Nat) (sv : Value) (m : Mp) : List RCl := L.map fun y => if y.g = g then ⟨y.g, sv, y.t, m⟩ else y

theorem updL_g (L : List RCl) (g : Nat) (sv : Value) (m : Mp) : (updL L g sv m).map (·.g) = L.map (·.g) := by
  unfold updL
  rw [List.map_map]
  refine List.map_congr_left (fun y _ => ?_)
  show (if y.g = g then (⟨y.g, sv, y.t, m⟩ : RCl) else y).g = y.g
  split <;> rfl

theorem row_other {e e' : TypeId} {n sz : Nat} {v : Value} {xs : List Value} {g : Nat} {cs : Array Value} {fz : Nat × Nat} (h : w.ownsRow 0 e sz v n xs) (hg : w.heap[g]? = some (.cells cs e' fz)) (he : e ≠ e') : v.ownBlock ≠ some g := by
  intro hk
  rcases h.2 with ⟨rfl, _⟩ | ⟨b, cap, cur, rfl, _, hb, _⟩
  · cases hk
  · cases hk
    rw [hb] at hg
    cases hg
    exact he rfl

theorem RefR.upd (h : RefR w S r tv lv ts L) {x : RCl} (hx : x ∈ L) {sv' : Value} {m' : Mp} (hb : w'.heap[x.g]? = some (.cells (refC x.t m' sv') 140 (0, 0))) (hp : PeerS w' sv' m'.peers)
    (hs : ∀ b, sliceBlk sv' = some b → (S b ∨ w.heap.size ≤ b) ∧ b < w'.heap.size ∧ b ≠ r ∧ lv.ownBlock ≠ some b ∧ ∀ y ∈ L, b ≠ y.g) (hF : Fr (fun k => k = x.g) w w') : RefR w' (grow S w w') r tv lv ts (updL L x.g sv' m') := by
  have hxg := (h.mem x hx).1.1
  have hrg : r ≠ x.g := fun e => by
    have h1 := h.blk
    rw [e, hxg] at h1
    cases h1
  have htv := row_other h.tens hxg (by decide)
  have hlv := row_other h.rows hxg (by decide)
  have hlen : (updL L x.g sv' m').length = L.length := by unfold updL; rw [List.length_map]
  have hmem : ∀ y ∈ updL L x.g sv' m', (∃ z ∈ L, z.g = x.g ∧ y = ⟨z.g, sv', z.t, m'⟩) ∨ (y ∈ L ∧ y.g ≠ x.g) := fun y hy => by
    obtain ⟨z, hz, rfl⟩ := List.mem_map.1 hy
    by_cases e : z.g = x.g
    · rw [if_pos e]
      exact .inl ⟨z, hz, e, rfl⟩
    · rw [if_neg e]
      exact .inr ⟨hz, e⟩
  have hone : ∀ z ∈ L, z.g = x.g → z = x := fun z hz e => pw_eq h.apart hz hx (fun q => q e) (fun q => q e.symm)
  have hgs : ∀ y ∈ updL L x.g sv' m', ∃ z ∈ L, z.g = y.g := fun y hy => by
    rcases hmem y hy with ⟨z, hz, _, rfl⟩ | ⟨hy, _⟩
    · exact ⟨z, hz, rfl⟩
    · exact ⟨y, hy, rfl⟩
  refine ⟨.inl h.sr, ?_, hF.some h.blk hrg, row_keepB h.tens (Nat.le_refl _) hF (fun k hk _ e => htv (by rw [hk, e])), ?_, fun k hk => .inl (h.tS k hk), fun k hk => .inl (h.lS k hk), ?_, ?_, ?_, by rw [hlen]; exact h.few⟩
  · rintro k (hk | hk)
    · exact Nat.lt_of_lt_of_le (h.bound k hk) hF.size
    · exact hk.2
  · have e1 : (updL L x.g sv' m').map (fun y => ptrV y.g) = L.map (fun y => ptrV y.g) := by
      have := congrArg (List.map ptrV) (updL_g L x.g sv' m')
      rw [List.map_map, List.map_map] at this
      exact this
    rw [e1, hlen]
    exact row_keepB h.rows (Nat.le_refl _) hF (fun k hk _ e => hlv (by rw [hk, e]))
  · intro y hy
    rcases hmem y hy with ⟨z, hz, e, rfl⟩ | ⟨hy, hne⟩
    · have := hone z hz e
      subst this
      refine ⟨⟨hb, hp⟩, .inl (h.mem z hz).2.1, fun b hb' => ?_⟩
      obtain ⟨a1, a2, _⟩ := hs b hb'
      rcases a1 with a1 | a1
      · exact .inl a1
      · exact .inr ⟨a1, a2⟩
    · refine ⟨⟨hF.some (h.mem y hy).1.1 hne, (h.mem y hy).1.2.keep hF.size (fun b hb' hl => hF.block b hl (fun e => (h.nb y hy b hb').2.2 x hx e))⟩, .inl (h.mem y hy).2.1, fun b hb' => .inl ((h.mem y hy).2.2 b hb')⟩
  · have : (L.map (fun y : RCl => y.g)).Pairwise (· ≠ ·) := List.pairwise_map.2 h.apart
    rw [← updL_g L x.g sv' m'] at this
    exact List.pairwise_map.1 this
  · intro y hy b hsb
    have key : b ≠ r ∧ lv.ownBlock ≠ some b ∧ ∀ y ∈ L, b ≠ y.g := by
      rcases hmem y hy with ⟨u, hu, _, rfl⟩ | ⟨hy, _⟩
      · exact (hs _ hsb).2.2
      · exact h.nb y hy b hsb
    refine ⟨key.1, key.2.1, fun z hz => ?_⟩
    obtain ⟨z', hz', e⟩ := hgs z hz
    rw [← e]
    exact key.2.2 z' hz'
end

/-- what the document's box means -/
def absM (L : List RCl) (i : Nat) : List Mp := (L.filter (fun x => x.t == i)).map (·.m)
def absT (t : Ten) (i : Nat) (L : List RCl) : Tn := ⟨t.outer, t.low, t.high, absM L i⟩
def absB (ts : List Ten) (L : List RCl) : List (Int × Tn) := ts.mapIdx fun i t => (t.tag, absT t i L)

theorem find_abs (p : Mp → Bool) (i : Nat) : ∀ L : List RCl, (L.find? (fun x => x.t == i && p x.m)).map (·.m) = (absM L i).find? p
  | [] => rfl
  | x :: r => by
    have ih := find_abs p i r
    unfold absM at ih ⊢
    rw [List.find?_cons, List.filter_cons]
    by_cases h1 : (x.t == i) = true
    · rw [if_pos h1, List.map_cons, List.find?_cons]
      by_cases h2 : p x.m = true
      · simp [h1, h2]
      · have h2' : p x.m = false := by simpa using h2
        simp only [h1, h2', Bool.and_false]
        exact ih
    · have h1' : (x.t == i) = false := by simpa using h1
      rw [if_neg h1]
      simp only [h1', Bool.false_and]
      exact ih

theorem absM_upd {L : List RCl} {x : RCl} (hx : x ∈ L) (hap : L.Pairwise fun x y => x.g ≠ y.g) (hA : (absM L x.t).Pairwise apartM) {m : Mp} (hs : sameK m x.m) (sv : Value) : absM (updL L x.g sv m) x.t = setM (absM L x.t) m := by
  have e1 : ∀ L' : List RCl, absM (updL L' x.g sv m) x.t = (L'.filter (fun y => y.t == x.t)).map (fun y => if y.g = x.g then m else y.m) := fun L' => by
    unfold absM updL
    rw [List.filter_map, List.map_map]
    have : (L'.filter ((fun y => y.t == x.t) ∘ fun y => if y.g = x.g then (⟨y.g, sv, y.t, m⟩ : RCl) else y)) = L'.filter (fun y => y.t == x.t) := by
      refine List.filter_congr (fun y _ => ?_)
      show ((if y.g = x.g then (⟨y.g, sv, y.t, m⟩ : RCl) else y).t == x.t) = (y.t == x.t)
      split <;> rfl
    rw [this]
    refine List.map_congr_left (fun y _ => ?_)
    show (if y.g = x.g then (⟨y.g, sv, y.t, m⟩ : RCl) else y).m = _
    split <;> rfl
  rw [e1]
  unfold setM absM at *
  rw [List.map_map]
  refine List.map_congr_left (fun y hy => ?_)
  have hxf : x ∈ L.filter (fun y => y.t == x.t) := List.mem_filter.2 ⟨hx, by simp⟩
  have hA' := List.pairwise_map.1 hA
  show (if y.g = x.g then m else y.m) = if isP m.proto m.port y.m then m else y.m
  by_cases e : y.g = x.g
  · have : y = x := pw_eq hap (List.mem_filter.1 hy).1 hx (fun q => q e) (fun q => q e.symm)
    rw [if_pos e, this, if_pos (isP_iff.2 ⟨hs.1.symm, hs.2.2.2.symm⟩)]
  · rw [if_neg e, if_neg]
    intro hp
    have hk := isP_iff.1 hp
    have : y = x := pw_eq hA' hy hxf (fun q => q.1 ⟨hk.1.trans hs.1, hk.2.trans hs.2.2.2⟩) (fun q => q.1 ⟨(hk.1.trans hs.1).symm, (hk.2.trans hs.2.2.2).symm⟩)
    exact e (by rw [this])

theorem absM_upd_ne {L : List RCl} {x : RCl} (hx : x ∈ L) (hap : L.Pairwise fun x y => x.g ≠ y.g) (m : Mp) (sv : Value) {j : Nat} (hj : j ≠ x.t) : absM (updL L x.g sv m) j = absM L j := by
  unfold absM updL
  rw [List.filter_map, List.map_map]
  have : (L.filter ((fun y => y.t == j) ∘ fun y => if y.g = x.g then (⟨y.g, sv, y.t, m⟩ : RCl) else y)) = L.filter (fun y => y.t == j) := by
    refine List.filter_congr (fun y _ => ?_)
    show ((if y.g = x.g then (⟨y.g, sv, y.t, m⟩ : RCl) else y).t == j) = (y.t == j)
    split <;> rfl
  rw [this]
  refine List.map_congr_left (fun y hy => ?_)
  show (if y.g = x.g then (⟨y.g, sv, y.t, m⟩ : RCl) else y).m = _
  split
  · rename_i e
    have hyL := List.mem_filter.1 hy
    have : y = x := pw_eq hap hyL.1 hx (fun q => q e) (fun q => q e.symm)
    rw [this] at hyL
    exact absurd (by simpa using hyL.2) hj.symm
  · rfl

/-- besides: no peer twice, both Fins known only at Closing -/
def okX (m : Mp) : Prop := m.peers.Nodup ∧ (m.fo = true → m.fi = true → m.st = 3)

end Go.Proofs.Ytgpplekabohneaa

namespace Go.Proofs.Ytgpplekabohneaa
open Go.RowKit

theorem info138 : (Try.prog.info? 138).map (fun i => (i.zero, i.size, i.bytes)) = some (some (.pointer none), 1, 8) := by kernel_rfl

theorem absM_snoc (L : List RCl) (x : RCl) : absM (L ++ [x]) x.t = absM L x.t ++ [x.m] := by
  unfold absM
  rw [List.filter_append, List.map_append]
  congr 1
  simp

theorem absM_snoc_ne (L : List RCl) (x : RCl) {j : Nat} (hj : j ≠ x.t) : absM (L ++ [x]) j = absM L j := by
  unfold absM
  rw [List.filter_append, List.map_append]
  have : ([x].filter (fun y => y.t == j)) = [] := by simp [hj.symm]
  rw [this]
  simp

/-- the box's own block, behind an append to its list -/
theorem RefR.appR {W w5 : World} {S : Nat → Prop} {r : Nat} {tv lv : Value} {ts : List Ten} {L : List RCl} (h : RefR W S r tv lv ts L) {o : Obj} {g : Nat} (hG : (lv.ownBlock = some g ∧ (W.alloc o).grownBy w5 (some g)) ∨ (g = (W.alloc o).heap.size ∧ (W.alloc o).grownBy w5 none)) : w5.heap[r]? = some (.cells #[tv, lv] 137 (0, 0)) := by
  have hrl : r < W.heap.size := (Array.getElem?_eq_some_iff.1 h.blk).1
  rcases hG with ⟨h5, h6⟩ | ⟨h5, h6⟩
  · refine (h6.block r (by simp; omega) (fun e => ?_)).trans ((Below.heap_alloc W o r hrl).trans h.blk)
    exact row_other h.rows h.blk (by decide) (by rw [h5]; exact e.symm)
  · exact (h6.block r (by simp; omega) (fun e => by cases e)).trans ((Below.heap_alloc W o r hrl).trans h.blk)

theorem RefR.snoc {W w5 : World} {S : Nat → Prop} {r : Nat} {tv lv : Value} {ts : List Ten} {L : List RCl} (h : RefR W S r tv lv ts L) {x : RCl} {o : Obj} {g cap : Nat} (hx : W.heap[x.g]? = some (.cells (refC x.t x.m x.sv) 140 (0, 0))) (hsv : x.sv = .slice none 0 0) (hpe : x.m.peers = []) (hnS : ¬ S x.g)
    (hO : w5.ownsRow 0 138 1 (.slice (some ⟨g, 0, none⟩) (L.length + 1) cap) (L.length + 1) ((L.map fun x => ptrV x.g) ++ [ptrV x.g])) (hG : (lv.ownBlock = some g ∧ (W.alloc o).grownBy w5 (some g)) ∨ (g = (W.alloc o).heap.size ∧ (W.alloc o).grownBy w5 none)) (hlen : L.length < 2000) :
    RefR (w5.setCell ⟨r, 1, none⟩ (.slice (some ⟨g, 0, none⟩) (L.length + 1) cap)) (fun k => S k ∨ (x.g ≤ k ∧ k < w5.heap.size ∧ ¬ S k)) r tv (.slice (some ⟨g, 0, none⟩) (L.length + 1) cap) ts (L ++ [x]) ∧
      (∀ k, k < W.heap.size → ¬ S k → (w5.setCell ⟨r, 1, none⟩ (.slice (some ⟨g, 0, none⟩) (L.length + 1) cap)).heap[k]? = W.heap[k]?) ∧ Fr S W (w5.setCell ⟨r, 1, none⟩ (.slice (some ⟨g, 0, none⟩) (L.length + 1) cap)) := by
  have hgl : g < w5.heap.size := (row_cap hO).2.2.2
  have hFr : Fr S W (w5.setCell ⟨r, 1, none⟩ (.slice (some ⟨g, 0, none⟩) (L.length + 1) cap)) := by
    refine Fr.setCell ?_ _ (fun _ => h.sr)
    have h0 : Fr S W (W.alloc o) := (Fr.refl _ _).alloc _
    rcases hG with ⟨h5, h6⟩ | ⟨h5, h6⟩
    · exact h0.trans' (Fr.of_grown (X := fun k => k = g) h6 (fun k hk _ => by cases hk; rfl)) (fun k hk _ => by subst hk; exact h.lS _ h5)
    · exact h0.trans' (Fr.of_grown (X := fun _ => False) h6 (fun k hk _ => by cases hk)) (fun k hk _ => hk.elim)
  have hkeep : ∀ k, k < W.heap.size → ¬ S k → (w5.setCell ⟨r, 1, none⟩ (.slice (some ⟨g, 0, none⟩) (L.length + 1) cap)).heap[k]? = W.heap[k]? := fun k hk hn => hFr.block k hk hn
  have hgr : g ≠ r := by
    rcases hG with ⟨h5, _⟩ | ⟨h5, _⟩
    · intro e
      exact row_other h.rows h.blk (by decide) (by rw [h5, e])
    · have := (Array.getElem?_eq_some_iff.1 h.blk).1
      intro e
      rw [h5, World.size_alloc] at e
      omega
  have hxl : x.g < W.heap.size := (Array.getElem?_eq_some_iff.1 hx).1
  have hold : ∀ k, k < W.heap.size → k ≠ r → lv.ownBlock ≠ some k → (w5.setCell ⟨r, 1, none⟩ (.slice (some ⟨g, 0, none⟩) (L.length + 1) cap)).heap[k]? = W.heap[k]? := fun k hk hr hl => by
    refine (Below.heap_setCell _ _ _ _ hr).trans ?_
    rcases hG with ⟨h5, h6⟩ | ⟨h5, h6⟩
    · exact (h6.block k (by simp; omega) (fun e => hl (by rw [h5, e]))).trans (Below.heap_alloc W o k hk)
    · exact (h6.block k (by simp; omega) (fun e => by cases e)).trans (Below.heap_alloc W o k hk)
  have hrl : r < W.heap.size := (Array.getElem?_eq_some_iff.1 h.blk).1
  have hr5 : w5.heap[r]? = some (.cells #[tv, lv] 137 (0, 0)) := by
    rcases hG with ⟨h5, h6⟩ | ⟨h5, h6⟩
    · exact (h6.block r (by simp; omega) (fun e => hgr (by simpa using e.symm))).trans ((Below.heap_alloc W o r hrl).trans h.blk)
    · exact (h6.block r (by simp; omega) (fun e => by cases e)).trans ((Below.heap_alloc W o r hrl).trans h.blk)
  have hsz : W.heap.size ≤ w5.heap.size := by have := hFr.size; simpa using this
  have hmemL : ∀ y ∈ L, y.g ≠ r ∧ lv.ownBlock ≠ some y.g := fun y hy => by
    refine ⟨fun e => ?_, row_other h.rows (h.mem y hy).1.1 (by decide)⟩
    have h1 := (h.mem y hy).1.1
    rw [e, h.blk] at h1
    cases h1
  have hxr : x.g ≠ r := fun e => hnS (e ▸ h.sr)
  have hxlv : lv.ownBlock ≠ some x.g := fun e => hnS (h.lS _ e)
  refine ⟨⟨.inl h.sr, ?_, ?_, ?_, ?_, fun k hk => .inl (h.tS k hk), ?_, ?_, ?_, ?_, by simp; omega⟩, hkeep, hFr⟩
  · rintro k (hk | hk)
    · have := h.bound k hk
      simp
      omega
    · simpa using hk.2.1
  · simp [World.setCell, Array.getElem?_modify, hr5]
  · refine ⟨h.tens.1, ?_⟩
    rcases h.tens.2 with h' | ⟨b, cap', cur, rfl, hb, hg', rest⟩
    · exact .inl h'
    · refine .inr ⟨b, cap', cur, rfl, hb, ?_, rest⟩
      have hbl := (Array.getElem?_eq_some_iff.1 hg').1
      have hbr : b ≠ r := fun e => by rw [e, h.blk] at hg'; cases hg'
      have hblv : lv.ownBlock ≠ some b := row_other h.rows hg' (by decide)
      exact (hold b hbl hbr hblv).trans hg'
  · refine ⟨by simp, ?_⟩
    rcases hO.2 with ⟨h1, _⟩ | ⟨b, cap', cur, h1, hb, hg', rest⟩
    · cases h1
    · have e : g = b := by simpa using (Value.slice.inj h1).1
      subst e
      refine .inr ⟨g, cap', cur, ?_, hb, (Below.heap_setCell _ _ _ _ hgr).trans hg', ?_⟩
      · simpa using h1
      · simpa using rest
  · intro k hk
    have e : g = k := by simpa [Value.ownBlock] using hk
    subst e
    by_cases hs : S g
    · exact .inl hs
    · refine .inr ⟨?_, hgl, hs⟩
      rcases hG with ⟨h5, _⟩ | ⟨h5, _⟩
      · exact absurd (h.lS _ h5) hs
      · rw [h5, World.size_alloc]
        omega
  · intro y hy
    rcases List.mem_append.1 hy with hy | hy
    · have hyl := (Array.getElem?_eq_some_iff.1 (h.mem y hy).1.1).1
      refine ⟨⟨(hold _ hyl (hmemL y hy).1 (hmemL y hy).2).trans (h.mem y hy).1.1, (h.mem y hy).1.2.keep (by simpa using hsz) (fun b hb hl => hold b hl (h.nb y hy b hb).1 (h.nb y hy b hb).2.1)⟩, .inl (h.mem y hy).2.1, fun b hb => .inl ((h.mem y hy).2.2 b hb)⟩
    · have : y = x := by simpa using hy
      subst this
      refine ⟨⟨(hold _ hxl hxr hxlv).trans hx, ?_⟩, .inr ⟨Nat.le_refl _, by omega, hnS⟩, fun b hb => by rw [hsv] at hb; cases hb⟩
      rw [hsv, hpe]
      exact ⟨none, 0, rfl, Nat.le_refl _, Nat.zero_le _, fun h0 => absurd h0 (by simp)⟩
  · rw [List.pairwise_append]
    refine ⟨h.apart, by simp, fun y hy z hz => ?_⟩
    have : z = x := by simpa using hz
    subst this
    exact fun e => hnS (e ▸ (h.mem y hy).2.1)
  · intro y hy b hsb
    rcases List.mem_append.1 hy with hy | hy
    · have hn := h.nb y hy b hsb
      have hSb := (h.mem y hy).2.2 b hsb
      refine ⟨hn.1, ?_, fun z hz => ?_⟩
      · intro e
        have e2 : g = b := by simpa [Value.ownBlock] using e
        subst e2
        rcases hG with ⟨h5, _⟩ | ⟨h5, _⟩
        · exact hn.2.1 h5
        · have := h.bound _ hSb
          rw [h5, World.size_alloc] at this
          omega
      · rcases List.mem_append.1 hz with hz | hz
        · exact hn.2.2 z hz
        · have : z = x := by simpa using hz
          subst this
          exact fun e => hnS (e ▸ hSb)
    · have : y = x := by simpa using hy
      subst this
      rw [hsv] at hsb
      cases hsb

end Go.Proofs.Ytgpplekabohneaa

namespace Go.Proofs.Ytgpplekabohneaa
open Go.RowKit

theorem marksF_okX {m : Mp} (h : okX m) (out syn fin rst : Bool) : okX (marksF m out syn fin rst) := by
  refine ⟨by rw [marksF_peers]; exact h.1, ?_⟩
  have h2 := h.2
  obtain ⟨proto, ia, ip, port, peers, st, idle, fo, fi⟩ := m
  dsimp only at h2
  unfold marksF
  by_cases h3 : st = 3
  · subst h3
    cases out <;> cases syn <;> cases fin <;> cases rst <;> cases fo <;> cases fi <;> simp
  · have b3 : (st == 3) = false := by simpa using h3
    by_cases h1 : st = 1
    · subst h1
      cases out <;> cases syn <;> cases fin <;> cases rst <;> cases fo <;> cases fi <;> simp_all
    · have b1 : (st == 1) = false := by simpa using h1
      dsimp only
      rw [b3, b1]
      cases out <;> cases syn <;> cases fin <;> cases rst <;> cases fo <;> cases fi <;> simp_all

theorem useF_nodup {l : List Int} (h : l.Nodup) (a : Int) : (useF l a).Nodup := by
  have h1 : (l.erase a ++ [a]).Nodup := by
    rw [List.nodup_append]
    refine ⟨h.sublist List.erase_sublist, by simp, fun x hx y hy => ?_⟩
    have : y = a := by simpa using hy
    subst this
    intro e
    subst e
    exact ((List.Nodup.mem_erase_iff h).1 hx).1 rfl
  unfold useF
  split
  · exact h1.sublist (List.eraseIdx_sublist _ _)
  · exact h1

theorem useM_okX {m : Mp} (h : okX m) (p : Pk) : okX (useM m p) := by
  unfold useM
  have : okX { m with peers := useF m.peers p.da, idle := 0 } := ⟨useF_nodup h.1 _, h.2⟩
  split
  · exact marksF_okX this _ _ _ _
  · exact this

theorem inF_okX {T : Tn} (h : ∀ m ∈ T.maps, okX m) (p : Pk) : ∀ m ∈ (inF T p).1.maps, okX m := by
  unfold inF
  split
  · split
    · exact h
    · rename_i m hm
      split
      · intro y hy
        have hy' : y ∈ if p.proto = 2 then setM T.maps { marksF m p.out p.syn p.fin p.rst with idle := 0 } else T.maps := hy
        split at hy'
        · rcases setM_mem hy' with rfl | ⟨hy, _⟩
          · exact marksF_okX (h m (List.mem_of_find?_eq_some hm)) _ _ _ _
          · exact h y hy
        · exact h y hy'
      · exact h
  · exact h

theorem outW_okX {T : Tn} {m : Mp} (h : ∀ y ∈ T.maps, okX y) (hm : okX m) (p : Pk) : ∀ y ∈ (outW T m p).1.maps, okX y := by
  have key : ∀ y ∈ setM T.maps (useM m p), okX y := fun y hy => by
    rcases setM_mem hy with rfl | ⟨hy, _⟩
    · exact useM_okX hm p
    · exact h y hy
  unfold outW
  split
  · exact inF_okX (T := { T with maps := setM T.maps (useM m p) }) key _
  · exact key

theorem outF_okX {T : Tn} (h : ∀ y ∈ T.maps, okX y) (p : Pk) : ∀ y ∈ (outF T p).1.maps, okX y := by
  unfold outF
  split
  · rename_i m hm
    exact outW_okX h (h m (List.mem_of_find?_eq_some hm)) p
  · split
    · exact h
    · split
      · exact h
      · rename_i q hq
        have hnew : okX (newM p.proto p.sa p.sp q) := ⟨List.nodup_nil, fun h => by cases h⟩
        refine outW_okX (T := { T with maps := T.maps ++ [newM p.proto p.sa p.sp q] }) (fun y hy => ?_) hnew p
        rcases List.mem_append.1 hy with hy | hy
        · exact h y hy
        · have : y = newM p.proto p.sa p.sp q := by simpa using hy
          rw [this]
          exact hnew

theorem passF_okX {T : Tn} (h : ∀ y ∈ T.maps, okX y) (p : Pk) : ∀ y ∈ (passF T p).1.maps, okX y := by
  unfold passF
  split
  · split <;> exact h
  · split
    · exact outF_okX h p
    · exact inF_okX h p

def okXB (B : List (Int × Tn)) : Prop := ∀ x ∈ B, ∀ m ∈ x.2.maps, okX m

theorem okXB.pass {B : List (Int × Tn)} (h : okXB B) (p : Pk) : okXB (passB B p).1 := by
  unfold passB
  split
  · split
    · exact h
    · rename_i x hx
      intro y hy
      obtain ⟨z, hz, rfl⟩ := List.mem_map.1 hy
      have hxm := List.mem_of_find?_eq_some hx
      by_cases e : isT p.tag z = true
      · rw [if_pos e]
        exact passF_okX (h x hxm) p
      · rw [if_neg e]
        exact h z hz
  · exact h

theorem okXB.tick {B : List (Int × Tn)} (h : okXB B) (n : Int) : okXB (tickB n B) := by
  intro y hy
  obtain ⟨z, hz, rfl⟩ := List.mem_map.1 hy
  intro m hm
  obtain ⟨m', hm', e⟩ := List.mem_filterMap.1 hm
  unfold tickM at e
  split at e
  · cases e
    exact h z hz m' hm'
  · cases e

theorem okXB.start (ts : List Ten) : okXB (newB ts) := by
  intro y hy
  obtain ⟨t, _, rfl⟩ := List.mem_map.1 hy
  intro m hm
  cases hm

theorem split_len {α : Type} (p : α → Bool) : ∀ l : List α, l.length = (l.filter p).length + (l.filter (fun x => !p x)).length
  | [] => rfl
  | x :: r => by
    have := split_len p r
    rw [List.filter_cons, List.filter_cons]
    cases p x
    · simp only [Bool.not_false, if_true, Bool.false_eq_true, if_false, List.length_cons]
      omega
    · simp only [Bool.not_true, if_true, Bool.false_eq_true, if_false, List.length_cons]
      omega

/-- how many there are in all -/
theorem abs_few {M : Nat} : ∀ (n : Nat) {L : List RCl}, (∀ x ∈ L, x.t < n) → (∀ i, (absM L i).length ≤ M) → L.length ≤ n * M
  | 0, L, h, _ => by
    cases L with
    | nil => exact Nat.zero_le _
    | cons x r => exact absurd (h x (.head _)) (by omega)
  | n + 1, L, h, hM => by
    have e : L.length = (L.filter (fun x => x.t == n)).length + (L.filter (fun x => !(x.t == n))).length := by
      exact split_len (fun x : RCl => x.t == n) L
    have h1 : (L.filter (fun x => x.t == n)).length ≤ M := by
      have := hM n
      unfold absM at this
      rwa [List.length_map] at this
    have h2 := abs_few (M := M) n (L := L.filter (fun x => !(x.t == n))) (fun x hx => by
      obtain ⟨a, b⟩ := List.mem_filter.1 hx
      have := h x a
      have : x.t ≠ n := by simpa using b
      omega) (fun i => by
      have := hM i
      unfold absM at this ⊢
      rw [List.length_map] at this ⊢
      refine Nat.le_trans ?_ this
      rw [List.filter_filter]
      refine List.Sublist.length_le ?_
      rw [← List.filter_filter]
      have : (L.filter (fun x => !(x.t == n))).filter (fun x => x.t == i) = (L.filter (fun x => x.t == i)).filter (fun x => !(x.t == n)) := by
        rw [List.filter_filter, List.filter_filter]
        congr 1
        funext x
        rw [Bool.and_comm]
      rw [this]
      exact List.filter_sublist)
    rw [Nat.succ_mul]
    omega

end Go.Proofs.Ytgpplekabohneaa
