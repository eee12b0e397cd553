/- 'begins' of the statement: New of the program and of the document agree; a box more. -/
import Derived.Test.YtgpplekabohneaaXh
import Derived.Test.YtgpplekabohneaaXl
namespace Go.Proofs.Ytgpplekabohneaa
open Go.RowKit

section
variable {w W w5 w8 : World} {B : Nat} {col col1 : Nat → Nat} {wb : Nat} {bs : List BX} {ps : List Pk} {nl yl : List (Value × Nat)} {c : Nat} {rv : Nat → Value} {ln : Nat → Nat} {xs : Nat → List Value}

theorem WI.row2 (hW : WR W B col wb rv ln xs c) (hX : WX ln xs bs ps nl yl) : W.ownsRow B 94 2 (rv 2) bs.length (boxC bs) ∧ (rv 2).ownBlock ≠ some wb := by
  have h1 := hW.rows 2 (by omega) (by omega)
  refine ⟨by have := h1.1; rw [hX.l2, hX.x2] at this; exact this, fun e => ?_⟩
  have h2 := h1.2 wb e
  rw [hW.cw] at h2
  omega

/-- what has no colour gets one -/
theorem WI.recol (h : WI W B col wb bs ps nl yl c) (h1 : ∀ k, col k ≠ 0 → col1 k = col k) (h2 : ∀ k, col1 k ≠ 0 → col k = 0 → B ≤ k ∧ k < W.heap.size) : WI W B col1 wb bs ps nl yl c ∧ ∀ rv ln xs, WR W B col wb rv ln xs c → WR W B col1 wb rv ln xs c := by
  have hcb : ∀ k, col k ≠ 0 → k < W.heap.size := fun k hk => (h.cb k hk).2
  have hT : Turn (fun _ => False) B W W col col1 := Turn.paint hcb h1 h2
  have hcb1 : ∀ k, col1 k ≠ 0 → k < W.heap.size := fun k hk => by
    by_cases e : col k = 0
    · exact (h2 k hk e).2
    · exact hcb k e
  obtain ⟨rv, ln, xs, hW, hX⟩ := h.rows
  exact ⟨⟨⟨rv, ln, xs, hW.turn hT (fun _ _ _ f => f), hX⟩, fun j hj => (h.boxes j hj).turn hT ⟨rfl, rfl, rfl⟩ (fun f => f) (fun f => f) hcb1, fun p hp => ⟨(h.nums p hp).1.keep hT.size (hT.at (by decide) (fun f => f)), (h.nums p hp).2⟩, fun p hp => ⟨(h.marks p hp).1.keep hT.size (hT.at (by decide) (fun f => f)), (h.marks p hp).2⟩, h.nb, h.np, h.few⟩, fun rv ln xs hW => hW.turn hT (fun _ _ _ f => f)⟩

theorem newB_abs (ts : List Ten) : newB ts = absB ts [] := by
  unfold newB absB
  refine List.ext_getElem (by simp) (fun i h1 h2 => ?_)
  rw [List.getElem_map, List.getElem_mapIdx]
  rfl

theorem tensC_cells (ts : List Ten) : B0.tenCells ts = tensC ts := rfl

open Classical in
/-- a box more -/
theorem WI.addBox (h : WI W B col wb bs ps nl yl c) (hW : WR W B col wb rv ln xs c) (hX : WX ln xs bs ps nl yl) {o : Obj} {p q : Nat} {ts : List Ten} {S1 S2 : Nat → Prop} (hP : B0.ProgBox W S1 p ts) (hQ : B0.RefBox2 W S2 q ts) (h1 : ∀ k, S1 k → col k = 0 ∧ B ≤ k) (h2 : ∀ k, S2 k → col k = 0 ∧ B ≤ k) (hd : ∀ k, S1 k → ¬ S2 k) (h8 : bs.length < 8) {g cap : Nat}
    (hown : w8.ownsRow B 94 2 (.slice (some ⟨g, 0, none⟩) (bs.length + 1) cap) (bs.length + 1) (boxC bs ++ [.pointer (some ⟨p, 0, none⟩), .pointer (some ⟨q, 0, none⟩)])) (hgr : ((rv 2).ownBlock = some g ∧ (W.alloc o).grownBy w8 (some g)) ∨ (g = (W.alloc o).heap.size ∧ (W.alloc o).grownBy w8 none)) :
    ∃ col' x, WI (w8.setCell ⟨wb, 0, none⟩ (.slice (some ⟨g, 0, none⟩) (bs.length + 1) cap)) B col' wb (bs ++ [x]) ps nl yl c ∧ Fr (fun k => col k ≠ 0) W (w8.setCell ⟨wb, 0, none⟩ (.slice (some ⟨g, 0, none⟩) (bs.length + 1) cap)) ∧ ∀ z, z < W.heap.size → col z = 0 → ¬ S1 z → ¬ S2 z → col' z = 0 := by
  obtain ⟨F, hB, hF⟩ := hP
  have hFb : ∀ k, F k → k < W.heap.size := by
    obtain ⟨_, _, _, _, _, h4⟩ := hB
    exact h4
  obtain ⟨q1, q2, q3, tv, v1, v2, v3⟩ := hQ
  have hqW : q < W.heap.size := (Array.getElem?_eq_some_iff.1 v1).1
  obtain ⟨G, hG⟩ : ∃ G : Nat → Prop, G = fun k => k = q ∨ tv.ownBlock = some k := ⟨_, rfl⟩
  have hGS : ∀ k, G k → S2 k := fun k hk => by
    rw [hG] at hk
    rcases hk with e | e
    · rw [e]; exact q1
    · exact v3 k e
  have hGb : ∀ k, G k → k < W.heap.size := fun k hk => by
    rw [hG] at hk
    rcases hk with e | e
    · omega
    · exact (v2.lt k e).2
  obtain ⟨cl, hcl⟩ : ∃ cl : Nat → Nat, cl = fun k => if F k then 9 + 2 * bs.length else if G k then 10 + 2 * bs.length else col k := ⟨_, rfl⟩
  have c1 : ∀ k, F k → cl k = 9 + 2 * bs.length := fun k hk => by rw [hcl]; exact if_pos hk
  have c2 : ∀ k, G k → cl k = 10 + 2 * bs.length := fun k hk => by
    have hn : ¬ F k := fun hf => hd k (hF k hf) (hGS k hk)
    rw [hcl]
    show (if F k then _ else _) = _
    rw [if_neg hn, if_pos hk]
  have c3 : ∀ k, ¬ F k → ¬ G k → cl k = col k := fun k n1 n2 => by
    rw [hcl]
    show (if F k then _ else _) = _
    rw [if_neg n1, if_neg n2]
  have hold : ∀ k, col k ≠ 0 → cl k = col k := fun k hk => c3 k (fun hf => hk (h1 k (hF k hf)).1) (fun hg => hk (h2 k (hGS k hg)).1)
  obtain ⟨hWI1, hWR1⟩ := h.recol (col1 := cl) hold (fun k hk h0 => by
    by_cases hf : F k
    · exact ⟨(h1 k (hF k hf)).2, hFb k hf⟩
    · by_cases hg : G k
      · exact ⟨(h2 k (hGS k hg)).2, hGb k hg⟩
      · rw [c3 k hf hg] at hk
        exact absurd h0 hk)
  have hcl1 : ∀ k, cl k ≠ 0 → k < W.heap.size := fun k hk => (hWI1.cb k hk).2
  have hnew : BXok W cl bs.length ⟨p, q, tv, .slice none 0 0, ts, []⟩ := by
    refine ⟨?_, ?_, ?_, ?_, q3, fun _ _ => rfl, q2⟩
    · show BoxR W (fun k => cl k = 9 + 2 * bs.length) p (absB ts [])
      rw [← newB_abs]
      exact hB.mono (fun k hk => c1 k hk) (fun k hk => hcl1 k (by omega))
    · refine ⟨c2 q (by rw [hG]; exact .inl rfl), fun k hk => hcl1 k (by omega), v1, ?_, World.ownsRow_nil _ _ _ _, fun k hk => c2 k (by rw [hG]; exact .inr hk), fun k hk => (by cases hk), fun _ hx => (by cases hx), List.Pairwise.nil, fun _ hx => (by cases hx), (by simp)⟩
      rw [← tensC_cells]
      exact v2
    · show okXB (absB ts [])
      rw [← newB_abs]
      exact okXB.start ts
    · show okPB (absB ts [])
      rw [← newB_abs]
      exact okPB.start ts
  have hbl : Below W.heap.size W (W.alloc o) := (Below.refl _ _).alloc (Nat.le_refl _) _
  have hT0 : Turn (fun _ => False) B W (W.alloc o) cl cl := Turn.free hcl1 (Fr.of_below hbl)
  have hWI2 := hWI1.below hbl
  have hW2 := (hWR1 _ _ _ hW).turn hT0 (fun _ _ _ f => f)
  have hnew2 := hnew.turn hT0 (Calm.of (Fr.of_below (X := fun _ => False) hbl)) (fun f => f) (fun f => f) (fun k hk => Nat.lt_of_lt_of_le (hcl1 k hk) hbl.size)
  obtain ⟨hW3, hT3, hF3⟩ := hW2.app (i := 2) (by omega) (by omega) (g := g) (n := bs.length + 1) (cap := cap) (news := [.pointer (some ⟨p, 0, none⟩), .pointer (some ⟨q, 0, none⟩)]) (by rw [hX.x2]; exact hown) hgr (o := 0) rfl
  have hcb3 : ∀ k, paint cl g 2 k ≠ 0 → k < (w8.setCell ⟨wb, 0, none⟩ (.slice (some ⟨g, 0, none⟩) (bs.length + 1) cap)).heap.size := fun k hk => (hW3.cb k hk).2
  have hFW : Fr (fun k => col k ≠ 0) W (w8.setCell ⟨wb, 0, none⟩ (.slice (some ⟨g, 0, none⟩) (bs.length + 1) cap)) := by
    refine Fr.setCell ((Fr.of_below hbl).trans' (fr_g hgr) (fun k hk _ => ?_)) _ (fun _ => by show col wb ≠ 0; rw [hW.cw]; decide)
    rw [(hW.rows 2 (by omega) (by omega)).2 k hk]
    decide
  refine ⟨paint cl g 2, ⟨p, q, tv, .slice none 0 0, ts, []⟩, ⟨⟨_, _, _, hW3, ?_⟩, fun j hj => ?_, fun p hp => ⟨(hWI2.nums p hp).1.keep hT3.size (hT3.at (by decide) (by omega)), (hWI2.nums p hp).2⟩, fun p hp => ⟨(hWI2.marks p hp).1.keep hT3.size (hT3.at (by decide) (by omega)), (hWI2.marks p hp).2⟩, by rw [List.length_append]; show bs.length + 1 ≤ 8; omega, h.np, h.few⟩, hFW, fun z hz h0 n1 n2 => ?_⟩
  · have hb : boxC (bs ++ [⟨p, q, tv, .slice none 0 0, ts, []⟩]) = boxC bs ++ [.pointer (some ⟨p, 0, none⟩), .pointer (some ⟨q, 0, none⟩)] := by
      unfold boxC
      rw [List.flatMap_append]
      rfl
    refine ⟨?_, ?_, ?_, ?_, ?_, ?_, ?_, ?_, ?_, ?_, ?_, ?_⟩
    · rw [up_same, List.length_append]; rfl
    · rw [up_same, hb, hX.x2]
    · rw [up_ne _ _ (by omega)]; exact hX.l3
    · rw [up_ne _ _ (by omega)]; exact hX.x3
    · rw [up_ne _ _ (by omega)]; exact hX.l4
    · rw [up_ne _ _ (by omega)]; exact hX.x4
    · rw [up_ne _ _ (by omega)]; exact hX.l5
    · rw [up_ne _ _ (by omega)]; exact hX.x5
    · rw [up_ne _ _ (by omega)]; exact hX.l6
    · rw [up_ne _ _ (by omega)]; exact hX.x6
    · rw [up_ne _ _ (by omega)]; exact hX.l7
    · rw [up_ne _ _ (by omega)]; exact hX.x7
  · by_cases hl : j < bs.length
    · rw [List.getElem_append_left hl]
      exact (hWI2.boxes j hl).turn hT3 (Calm.of hF3) (by omega) (by omega) hcb3
    · have e : j = bs.length := by rw [List.length_append] at hj; have : j < bs.length + 1 := hj; omega
      subst e
      rw [List.getElem_append_right (by omega)]
      have : ([⟨p, q, tv, .slice none 0 0, ts, []⟩] : List BX)[bs.length - bs.length]'(by simp) = ⟨p, q, tv, .slice none 0 0, ts, []⟩ := by simp
      rw [this]
      exact hnew2.turn hT3 (Calm.of hF3) (by omega) (by omega) hcb3
  · unfold paint
    rw [if_neg, c3 z (fun hf => n1 (hF z hf)) (fun hg => n2 (hGS z hg)), h0]
    intro e
    rcases hgr with ⟨e1, _⟩ | ⟨e1, _⟩
    · have := (hW.rows 2 (by omega) (by omega)).2 g e1
      rw [← e, h0] at this
      omega
    · rw [World.size_alloc] at e1
      omega

def BeginsOut (w : World) (B : Nat) (col : Nat → Nat) (wb : Nat) (ps : List Pk) (nl yl : List (Value × Nat)) (c : Nat) (w' : World) : Prop :=
  ∃ col' bs', WI w' B col' wb bs' ps nl yl c ∧ Ext w w' col col'

end

namespace B0

attribute [local go_sem ↓] Go.wp_at_zero Go.wp_at_succ

set_option maxRecDepth 100000 in
set_option maxHeartbeats 4000000 in
theorem wbegins_any {w : World} {B : Nat} {col : Nat → Nat} {wb : Nat} {bs : List BX} {ps : List Pk} {nl yl : List (Value × Nat)} {c : Nat} (h : WI w B col wb bs ps nl yl c)
    (kd on a b : Int) (tp pp : Option Addr) (n tc pn pc : Nat) (ts : List Ten) (hS : TenArg w (.slice tp n tc) ts) (hn : n = ts.length) (hn2 : n ≤ 4398046511104) :
    Calls Try.prog 33 #[.pointer (some ⟨wb, 0, none⟩), .agg #[.int .i64 kd, .int .i64 on, .int .i64 a, .int .i64 b, .slice tp n tc, .slice pp pn pc]] w fun e w' =>
      e = .returned (.bool true) ∧ BeginsOut w B col wb ps nl yl c w' := by
  have hT := h
  have hBw : B ≤ w.heap.size := by have := hT.base; omega
  clear h
  have hmk := run_make4 n hn2
  have H := hide hT
  have HN := hide hn
  have hb1 : ∀ X Y, Below w.heap.size w ((w.alloc X).alloc Y) := fun X Y => ((Below.refl _ _).alloc (Nat.le_refl _) X).alloc (by simp) Y
  obtain ⟨v2, w2, hcp, hblk, hgr⟩ := run_copyA ((w.alloc (Obj.cells #[Value.int IntKind.i64 kd, Value.int IntKind.i64 on, Value.int IntKind.i64 a, Value.int IntKind.i64 b, Value.slice tp n tc, Value.slice pp pn pc] 76)).alloc (Obj.cells (tenCells (List.replicate (n + 4) zT)).toArray 73)) 3 (w.heap.size + 1) (n + 4) (.slice tp n tc) ts 4
    (hS.keep (hb1 _ _).size (fun k hk => (hb1 _ _).block k hk)) (by rw [← hn]; exact blkN _ _ _ (by simp))
  rw [← hn] at hcp
  have hb2 : Below w.heap.size w w2 := (hb1 _ _).trans ((Below.refl _ _).grown hgr (by simp; omega) (fun k hk => by cases hk; omega))
  have hob : w2.heap[w.heap.size]? = some (Obj.cells #[Value.int IntKind.i64 kd, Value.int IntKind.i64 on, Value.int IntKind.i64 a, Value.int IntKind.i64 b, Value.slice tp n tc, Value.slice pp pn pc] 76 (0, 0)) :=
    (hgr.block w.heap.size (by simp; omega) (by simp)).trans (blkA (blkN _ _ _ rfl))
  have HS := hide hS
  have HB2 := hide hb2
  have HBK := hide hblk
  have HOB := hide hob
  clear hT hn hS hb1 hblk hgr hb2 hob
  go_enter Try.func33, Try.ntmps33
  go_wp2
  clear hcp hmk
  go_loopg [7] 4 (fun z s wr => ∃ i k : Nat, k ≤ 4 ∧ z = 4 - k ∧ i = n + k ∧ s = .int .i64 i ∧ TenBlock wr (w.heap.size + 1) (ts ++ List.replicate k m7 ++ List.replicate (4 - k) zT) ∧ Below (w.heap.size + 1) w2 wr)
  case atStart => exact ⟨n, 0, by omega, rfl, rfl, rfl, by simpa using unhide HBK, Below.refl _ _⟩
  case round =>
    obtain ⟨i, k, hk, hz, hik, rfl, hblk, hbl⟩ := hrel
    have HZ := hide hz
    have HBL := hide hbl
    have HIK := hide hik
    have HK := hide hblk
    by_cases hk4 : k < 4
    · have hlen : (ts ++ List.replicate k m7 ++ List.replicate (4 - k) zT).length = n + 4 := by have := unhide HN; simp; omega
      have hilt : i < (ts ++ List.replicate k m7 ++ List.replicate (4 - k) zT).length := by omega
      obtain ⟨g0, g1, g2, g3⟩ := hblk.at i hilt
      have fz := hblk.frozen
      simp only [Nat.zero_add] at g0 g1 g2 g3
      have hkn : (i : Int) < (n : Int) + 4 := by omega
      generalize (ts ++ List.replicate k m7 ++ List.replicate (4 - k) zT)[i].tag = y0 at *
      generalize (ts ++ List.replicate k m7 ++ List.replicate (4 - k) zT)[i].outer = y1 at *
      generalize (ts ++ List.replicate k m7 ++ List.replicate (4 - k) zT)[i].low = y2 at *
      generalize (ts ++ List.replicate k m7 ++ List.replicate (4 - k) zT)[i].high = y3 at *
      have HL := hide hilt
      clear hz hbl hblk hlen hik hilt hk4
      go_wp2
      go_roundg (4 - (k + 1))
      case measure => have := unhide HZ; have := unhide HIK; omega
      case rel =>
        have hik := unhide HIK
        have hs := (unhide HK).set (unhide HL) (-7) 0 0 0
        have e := fill_set ts k (by omega)
        rw [← unhide HN, ← hik] at e
        refine ⟨i + 1, k + 1, by omega, rfl, by omega, by go_num, ?_, (unhide HBL).trans (below_set4 (Nat.le_refl _) _ _ _ _ _ _ _ _)⟩
        rw [← e]
        exact hs
    · have hk4' : k = 4 := by omega
      subst hk4'
      have hkn : ¬ (i : Int) < (n : Int) + 4 := by omega
      have HK4 : Hid (TenBlock wr (w.heap.size + 1) (ts ++ List.replicate 4 m7)) := by
        have := hblk
        rw [Nat.sub_self, List.replicate_zero, List.append_nil] at this
        exact this
      clear hz hbl hblk hik hk4 HK
      have hts := (unhide HK4).at.take n
      rw [List.take_append_of_le_length (by have := unhide HN; omega), List.take_of_length_le (by have := unhide HN; omega)] at hts
      have HNEW := hide (new_some (w.heap.size + 1) 0 n (n + 4) ts wr (unhide HN) (by omega) (by unfold maxLen; omega) (unhide HK4).lt hts)
      clear hts
      obtain ⟨wo, hwo⟩ : ∃ wo, wo = wr := ⟨_, rfl⟩
      subst hwo
      go_wp2_with fail
      refine (unhide HNEW).mono ?_
      intro e w3 hne
      obtain ⟨hb3, pb, rfl, hcase⟩ := new_end hne
      have HPB := hide hcase
      have HLOW : Hid (Below (w.heap.size + 1) w2 w3) := (unhide HBL).trans (hb3.mono (by have := (unhide HK4).lt; omega))
      have HBK3 : Hid (TenBlock w3 (w.heap.size + 1) (ts ++ List.replicate 4 m7)) := (hb3.block _ (unhide HK4).lt).trans (unhide HK4)
      have HB3 := hide hb3
      clear hne hcase hb3 HNEW
      generalize hE : newErr ts = E at *
      have HE := hide hE
      clear hE
      go_wp2
      clear HIK
      go_loopg [10, 11] (n + 4) (fun z s0 s wr => s0 = .bool true ∧ ∃ j : Nat, j ≤ n + 4 ∧ z = n + 4 - j ∧ s = .int .i64 j ∧ TenBlock wr (w.heap.size + 1) (freshT j ++ (ts ++ List.replicate 4 m7).drop j) ∧ w3.grownBy wr (some (w.heap.size + 1)))
      case atStart => exact ⟨rfl, 0, by omega, rfl, rfl, unhide HBK3, ⟨rfl, rfl, rfl, Nat.le_refl _, fun _ _ _ => rfl⟩⟩
      case round =>
        obtain ⟨rfl, j, hj, hz, rfl, hblk, hgr⟩ := hrel
        have HZ2 := hide hz
        have HK := hide hblk
        have HG := hide hgr
        have hxl : (ts ++ List.replicate 4 m7).length = n + 4 := by have := unhide HN; simp; omega
        have hwl : w.heap.size + 1 < w3.heap.size := (unhide HBK3).lt
        have hold : ∀ k, k < w.heap.size + 1 → wr.heap[k]? = w2.heap[k]? := fun k hk => (hgr.block k (by omega) (fun e => by injection e with e2; omega)).trans ((unhide HLOW).block k hk)
        have HOLD := hide hold
        by_cases hj4 : j < n + 4
        · have hjx : j < (ts ++ List.replicate 4 m7).length := by omega
          have hjl : j < (freshT j ++ (ts ++ List.replicate 4 m7).drop j).length := by rw [List.length_append, freshT_length, List.length_drop]; omega
          obtain ⟨g0, g1, g2, g3⟩ := hblk.at j hjl
          have fz := hblk.frozen
          rw [over_at _ _ hjx] at g0 g1 g2 g3
          simp only [Nat.zero_add] at g0 g1 g2 g3
          have hjn4 : (j : Int) < (n : Int) + 4 := by omega
          have HJL := hide hjl
          have HJX := hide hjx
          by_cases hjn : j < n
          · have hjt : j < ts.length := by have := unhide HN; omega
            rw [List.getElem_append_left hjt] at g0 g1 g2 g3
            rcases unhide HS with (⟨hnil, hts⟩ | ⟨b0, off, cap, hv, -, hc, hm, hb, hTat⟩) | ⟨a9, cap9, hv9, hts⟩
            · exact absurd hjt (by rw [hts]; simp)
            · obtain ⟨t0, t1, t2, t3⟩ := hTat j hjt
              have htp : tp = some ⟨b0, off, none⟩ := by simp at hv; exact hv.1
              have hob : ∀ o, wr.cell? ⟨b0, o, none⟩ = w.cell? ⟨b0, o, none⟩ := fun o => World.cell?_of_block (a := ⟨b0, o, none⟩) ((hold b0 (by omega)).trans ((unhide HB2).block b0 hb))
              rw [← hob] at t0 t1 t2 t3
              have oc : wr.cell? ⟨w.heap.size, 4, none⟩ = some (.slice (some ⟨b0, off, none⟩) n tc) := by
                have : wr.heap[w.heap.size]? = _ := (hold w.heap.size (by omega)).trans (unhide HOB)
                simp [World.cell?, this, htp]
              have hjn' : (j : Int) < (n : Int) := by omega
              have HTP := hide htp
              generalize ts[j].tag = y0 at *
              generalize ts[j].outer = y1 at *
              generalize ts[j].low = y2 at *
              generalize ts[j].high = y3 at *
              clear hz hblk hgr hold hjx hjl hv hTat htp hob hxl hjt hj4 hjn4
              have hj0 : (0 : Int) ≤ (j : Int) := by omega
              have hjn5 : (j : Int) < ((n + 4 : Nat) : Int) := by omega
              go_wp2
              go_quiet (fail)
              go_wp2
              go_roundg (n + 4 - (j + 1))
              case measure => have := unhide HZ2; omega
              case rel =>
                have hd : TenBlock (wr.drewN nq) (w.heap.size + 1) (freshT j ++ (ts ++ List.replicate 4 m7).drop j) := unhide HK
                have hs := hd.set (unhide HJL) (1 + (j : Int)) (70 + (j : Int)) 5 5
                rw [over_set _ _ (unhide HJX)] at hs
                have hg1 : w3.grownBy (wr.drewN nq) (some (w.heap.size + 1)) := grown_trans (unhide HG) ⟨rfl, rfl, rfl, by simp, fun _ _ _ => rfl⟩
                exact ⟨rfl, j + 1, by omega, rfl, by go_num, hs, grown_trans hg1 (grown_set4 (wr.drewN nq) _ _ _ _ _ _ _ _ _)⟩
            · exact absurd hjt (by rw [hts]; simp)
          · have hjr : (ts ++ List.replicate 4 m7)[j]'hjx = m7 := by
              rw [List.getElem_append_right (by have := unhide HN; omega), List.getElem_replicate]
            rw [hjr] at g0 g1 g2 g3
            simp only [m7] at g0 g1 g2 g3
            have hjn' : ¬ (j : Int) < (n : Int) := by omega
            clear hz hblk hgr hold hjx hjl hxl hj4 hjr
            have hj0 : (0 : Int) ≤ (j : Int) := by omega
            have hjn5 : (j : Int) < ((n + 4 : Nat) : Int) := by omega
            go_wp2
            go_roundg (n + 4 - (j + 1))
            case measure => have := unhide HZ2; omega
            case rel =>
              have hs := (unhide HK).set (unhide HJL) (1 + (j : Int)) (70 + (j : Int)) 5 5
              rw [over_set _ _ (unhide HJX)] at hs
              exact ⟨rfl, j + 1, by omega, rfl, by go_num, hs, grown_trans (unhide HG) (grown_set4 wr _ _ _ _ _ _ _ _ _)⟩
        · have hje : j = n + 4 := by omega
          have hfr : TenBlock wr (w.heap.size + 1) (freshT (n + 4)) := by
            have := hblk
            rw [hje, List.drop_eq_nil_of_le (by omega), List.append_nil] at this
            exact this
          have HFR := hide hfr
          have hjn4 : ¬ (j : Int) < (n : Int) + 4 := by omega
          have hS4 : TenArg wr (.slice tp n tc) ts := by
            have hsz : w2.heap.size ≤ wr.heap.size := Nat.le_trans (unhide HLOW).size hgr.size
            have hs0 : w.heap.size ≤ w2.heap.size := (unhide HB2).size
            exact (unhide HS).keep (by omega) (fun k hk => (hold k (by omega)).trans ((unhide HB2).block k hk))
          have HREF := hide (refNew2_any _ ts wr hS4)
          have oc : wr.cell? ⟨w.heap.size, 4, none⟩ = some (.slice tp n tc) := by
            have : wr.heap[w.heap.size]? = _ := (hold w.heap.size (by omega)).trans (unhide HOB)
            simp [World.cell?, this]
          clear hz hblk hgr hold hxl hj4 hje hfr hS4 hwl
          obtain ⟨w4, hw4⟩ : ∃ w4, w4 = wr := ⟨_, rfl⟩
          subst hw4
          go_wp2_with fail
          refine (unhide HREF).mono ?_
          intro e w5 hre
          have hr := ref_end2 hre
          rw [unhide HE] at hr
          obtain ⟨hb5, qb, rfl, hcase2⟩ := hr
          have hw4 : Below w.heap.size w w4 := (unhide HB2).trans (((unhide HLOW).mono (by omega)).trans ⟨(unhide HG).os, (unhide HG).tape, (unhide HG).output, (unhide HG).size, fun k hk => (unhide HG).block k (by have := (unhide HBK3).lt; omega) (fun e => by injection e with e2; omega)⟩)
          have hw5 : Below w.heap.size w w5 := hw4.trans (hb5.mono hw4.size)
          have HT5 := hide ((unhide H).below hw5)
          have HW5 := hide hw5
          have HFRX : Hid (TenBlock w5 (w.heap.size + 1) (freshT (n + 4))) := (hb5.block _ (unhide HFR).lt).trans (unhide HFR)
          have hs45 := hb5.size
          have hs34 := (unhide HG).size
          have hs04 := hw4.size
          have HB5 := hide hb5
          have HQB := hide hcase2
          clear hre hcase2 hb5 hw4 hw5 HREF oc
          rcases unhide HPB with ⟨hE0, rfl⟩ | ⟨hE0, p, rfl, hpb⟩
          · rcases unhide HQB with ⟨-, rfl⟩ | ⟨hE1, -⟩
            · clear hE0 HQB HPB hs45 hs34 hs04
              have hft := (unhide HFRX).at.take n
              rw [freshT_take n (n + 4) (by omega)] at hft
              have HN1 := hide (new_some (w.heap.size + 1) 0 n (n + 4) (freshT n) w5 (freshT_length n).symm (by omega) (by unfold maxLen; omega) (unhide HFRX).lt hft)
              clear hft
              go_wp2_with fail
              refine (unhide HN1).mono ?_
              intro e1 w6 hne1
              obtain ⟨hb6, pc1, rfl, hc1⟩ := new_end hne1
              have HC1 := hide hc1
              have HFR6 : Hid (TenBlock w6 (w.heap.size + 1) (freshT (n + 4))) := (hb6.block _ (unhide HFRX).lt).trans (unhide HFRX)
              have HB6 := hide hb6
              clear hne1 hc1 hb6 HN1
              have hft := (unhide HFR6).at.take n
              rw [freshT_take n (n + 4) (by omega)] at hft
              have HN2 := hide (refNew2_some (w.heap.size + 1) 0 n (n + 4) (freshT n) w6 (freshT_length n).symm (by omega) (by unfold maxLen; omega) (unhide HFR6).lt hft)
              clear hft
              go_wp2_with fail
              refine (unhide HN2).mono ?_
              intro e2 w7 hre2
              obtain ⟨hb7, pc2, rfl, hc2⟩ := ref_end2 hre2
              have HB7 : Hid (Below w5.heap.size w5 w7) := (unhide HB6).trans (hb7.mono (unhide HB6).size)
              clear hre2 hc2 hb7 HN2
              generalize newErr (freshT n) = F at *
              rcases unhide HC1 with ⟨hF, rfl⟩ | ⟨rfl, p1, rfl, -⟩
              · have hF2 : (F != 0) = true := by simpa using hF
                clear hF HC1
                go_wp2
                go_ret
                exact ⟨rfl, col, bs, (unhide HT5).below (unhide HB7), Ext.below ((unhide HW5).trans ((unhide HB7).mono (unhide HW5).size))⟩
              · clear HC1
                go_wp2
                go_ret
                exact ⟨rfl, col, bs, (unhide HT5).below (unhide HB7), Ext.below ((unhide HW5).trans ((unhide HB7).mono (unhide HW5).size))⟩
            · exact absurd hE1 hE0
          · rcases unhide HQB with ⟨hE1, -⟩ | ⟨-, q, rfl, hqb⟩
            · exact absurd hE0 hE1
            · have hgo : w.heap.size + 1 < wo.heap.size := (unhide HK4).lt
              have hs3 : wo.heap.size ≤ w3.heap.size := (unhide HB3).size
              have hP5 : ProgBox w5 (fun k => wo.heap.size ≤ k ∧ k < w3.heap.size) p ts := by
                refine hpb.keep (by omega) (fun k hk hk3 => ⟨hk, hk3⟩) (fun k hk hk3 => ?_)
                have hk' : wo.heap.size ≤ k := hk
                exact ((unhide HB5).block k (by omega)).trans ((unhide HG).block k hk3 (fun e => by injection e with e2; omega))
              have hQ5 : RefBox2 w5 (fun k => w4.heap.size ≤ k ∧ k < w5.heap.size) q ts := by
                obtain ⟨q1, q2, q3, v, q4, q5, q6⟩ := hqb
                exact ⟨⟨q1, (Array.getElem?_eq_some_iff.1 q4).1⟩, q2, q3, v, q4, q5, fun k hk => ⟨q6 k hk, (q5.lt k hk).2⟩⟩
              have HSZ : Hid (w.heap.size ≤ wo.heap.size ∧ wo.heap.size ≤ w3.heap.size ∧ w3.heap.size ≤ w4.heap.size ∧ w4.heap.size ≤ w5.heap.size) := ⟨by omega, by omega, by omega, by omega⟩
              have HP5 := hide hP5
              have HQ5 := hide hQ5
              obtain ⟨rv, ln, xs, hW5, hX5⟩ := (unhide HT5).rows
              obtain ⟨c0, -, -, -, -, -, -, -, -, hfz⟩ := hW5.cells
              have f0 := hfz 0
              have hr2 := WI.row2 hW5 hX5
              have hbl : ∃ bp bc, rv 2 = .slice bp bs.length bc := by
                obtain ⟨bp, bc, e, -, -, -⟩ := rowN_cells hr2.1
                exact ⟨bp, bc, e⟩
              have HW5R := hide (And.intro hW5 (And.intro hX5 hr2))
              have hwbl5 := hW5.bound.1
              clear hW5 hX5 hr2
              clear hE0 HQB HPB hpb hqb hP5 hQ5 hfz hs45 hs34 hs04 hgo hs3
              by_cases h8 : bs.length < 8
              · have h8' : (bs.length : Int) < 8 := by omega
                obtain ⟨bp, bc, hbv⟩ := hbl
                have hwbl := hwbl5
                have hB5 : B ≤ w5.heap.size := by have := (unhide HW5).size; omega
                have hgx : w.heap.size + 1 < w5.heap.size := (unhide HFRX).lt
                have HBO := hide ((unhide HW5R).2.2.1.alloc (.cells #[.pointer (some ⟨p, 0, none⟩), .pointer (some ⟨q, 0, none⟩)] 94))
                have HWB := hide (unhide HW5R).2.2.2
                have hbv0 := hbv
                rw [hbv] at c0 HBO
                have HBV := hide hbv0
                obtain ⟨i0, hi, hz0, hz1, hz2⟩ := info_parts info94
                have HI := hide (And.intro hi (And.intro hz0 (And.intro hz1 hz2)))
                have hb8 : bs.length + 1 ≤ 8 := by omega
                clear hbv hbv0 hi hz0 hz1 hz2
                go_wp2_with
                  ((at_builtin; refine wpList_append_x _ rfl _ _ _ rfl B 94 i0 _ 2 16 Try.underlying64 (unhide HI).1 (unhide HI).2.1 (unhide HI).2.2.1 (unhide HI).2.2.2 rfl (by omega) (.slice bp bs.length bc) bs.length (boxC bs) rfl (unhide HBO) ⟨w5.heap.size, 0, none⟩ 1 1 [.pointer (some ⟨p, 0, none⟩), .pointer (some ⟨q, 0, none⟩)] rfl rfl (World.news_of_block (by exact blkN w5 _ _ rfl)) (by simp [Value.oneCell']) (by omega) (by unfold maxLen; omega) (by omega) (by simp; omega) ?_; intro g8 cap8 w8 hown8 hgr8;
                    rw [← unhide HBV] at hgr8;
                    have q8 : w8.heap[wb]? = w5.heap[wb]? := (kept_x hgr8 (by simp; omega) (unhide HWB)).trans (Below.heap_alloc w5 _ wb hwbl);
                    have c08 := (World.cell?_of_block (a := ⟨wb, 0, none⟩) q8).trans c0;
                    have f08 := (World.frozen?_of_block (a := ⟨wb, 0, none⟩) q8).trans f0;
                    have HO8 := hide hown8; have HG8 := hide hgr8; clear q8 hown8 hgr8))
                have hz0 : ∀ k, w.heap.size ≤ k → col k = 0 := fun k hk => Classical.byContradiction (fun hn => by have := ((unhide H).cb k hn).2; omega)
                have hadd := (unhide HT5).addBox (unhide HW5R).1 (unhide HW5R).2.1 (o := .cells #[.pointer (some ⟨p, 0, none⟩), .pointer (some ⟨q, 0, none⟩)] 94) (unhide HP5) (unhide HQ5) (fun k hk => ⟨hz0 k (by have := unhide HSZ; omega), by have := unhide HSZ; omega⟩) (fun k hk => ⟨hz0 k (by have := unhide HSZ; omega), by have := unhide HSZ; omega⟩) (fun k h1 h2 => by have := unhide HSZ; omega) h8 (unhide HO8) (unhide HG8)
                obtain ⟨col9, x9, hT9, hF9, hzz⟩ := hadd
                have HE9 : Hid (Ext w (w8.setCell ⟨wb, 0, none⟩ (Value.slice (some { block := g8, off := 0 }) (bs.length + 1) cap8)) col col9) := by
                  refine ⟨(Fr.of_below (unhide HW5)).trans hF9, fun z hz h0 => hzz z (Nat.lt_of_lt_of_le hz (unhide HW5).size) h0 (fun e => by have := unhide HSZ; omega) (fun e => by have := unhide HSZ; omega)⟩
                have HFR9 : Hid (TenBlock (w8.setCell ⟨wb, 0, none⟩ (Value.slice (some { block := g8, off := 0 }) (bs.length + 1) cap8)) (w.heap.size + 1) (freshT (n + 4))) :=
                  hF9.some (unhide HFRX) (fun hn => hn (hz0 _ (by omega)))
                clear hz0 hF9 hzz c0 f0 c08 f08 HO8 HG8 HI HBO HWB HBV HP5 HQ5 HFRX HW5R HSZ
                generalize w8.setCell ⟨wb, 0, none⟩ (Value.slice (some { block := g8, off := 0 }) (bs.length + 1) cap8) = w9 at *
                have HT9 := hide hT9
                clear hT9
                have hft := (unhide HFR9).at.take n
                rw [freshT_take n (n + 4) (by omega)] at hft
                have HN1 := hide (new_some (w.heap.size + 1) 0 n (n + 4) (freshT n) w9 (freshT_length n).symm (by omega) (by unfold maxLen; omega) (unhide HFR9).lt hft)
                clear hft
                refine (unhide HN1).mono ?_
                intro e1 w6 hne1
                obtain ⟨hb6, pc1, rfl, hc1⟩ := new_end hne1
                have HC1 := hide hc1
                have HFR6 : Hid (TenBlock w6 (w.heap.size + 1) (freshT (n + 4))) := (hb6.block _ (unhide HFR9).lt).trans (unhide HFR9)
                have HB6 := hide hb6
                clear hne1 hc1 hb6 HN1
                have hft := (unhide HFR6).at.take n
                rw [freshT_take n (n + 4) (by omega)] at hft
                have HN2 := hide (refNew2_some (w.heap.size + 1) 0 n (n + 4) (freshT n) w6 (freshT_length n).symm (by omega) (by unfold maxLen; omega) (unhide HFR6).lt hft)
                clear hft
                go_wp2_with fail
                refine (unhide HN2).mono ?_
                intro e2 w7 hre2
                obtain ⟨hb7, pc2, rfl, hc2⟩ := ref_end2 hre2
                have HB7 : Hid (Below w9.heap.size w9 w7) := (unhide HB6).trans (hb7.mono (unhide HB6).size)
                clear hre2 hc2 hb7 HN2
                generalize newErr (freshT n) = F at *
                rcases unhide HC1 with ⟨hF, rfl⟩ | ⟨rfl, p1, rfl, -⟩
                · have hF2 : (F != 0) = true := by simpa using hF
                  clear hF HC1
                  go_wp2
                  go_ret
                  exact ⟨rfl, col9, _, (unhide HT9).below (unhide HB7), (unhide HE9).trans (Ext.below (unhide HB7))⟩
                · clear HC1
                  go_wp2
                  go_ret
                  exact ⟨rfl, col9, _, (unhide HT9).below (unhide HB7), (unhide HE9).trans (Ext.below (unhide HB7))⟩
              · have h8' : ¬ (bs.length : Int) < 8 := by omega
                obtain ⟨bp, bc, hbv⟩ := hbl
                rw [hbv] at c0
                clear hbv h8
                have hft := (unhide HFRX).at.take n
                rw [freshT_take n (n + 4) (by omega)] at hft
                have HN1 := hide (new_some (w.heap.size + 1) 0 n (n + 4) (freshT n) w5 (freshT_length n).symm (by omega) (by unfold maxLen; omega) (unhide HFRX).lt hft)
                clear hft
                go_wp2_with fail
                refine (unhide HN1).mono ?_
                intro e1 w6 hne1
                obtain ⟨hb6, pc1, rfl, hc1⟩ := new_end hne1
                have HC1 := hide hc1
                have HFR6 : Hid (TenBlock w6 (w.heap.size + 1) (freshT (n + 4))) := (hb6.block _ (unhide HFRX).lt).trans (unhide HFRX)
                have HB6 := hide hb6
                clear hne1 hc1 hb6 HN1
                have hft := (unhide HFR6).at.take n
                rw [freshT_take n (n + 4) (by omega)] at hft
                have HN2 := hide (refNew2_some (w.heap.size + 1) 0 n (n + 4) (freshT n) w6 (freshT_length n).symm (by omega) (by unfold maxLen; omega) (unhide HFR6).lt hft)
                clear hft
                go_wp2_with fail
                refine (unhide HN2).mono ?_
                intro e2 w7 hre2
                obtain ⟨hb7, pc2, rfl, hc2⟩ := ref_end2 hre2
                have HB7 : Hid (Below w5.heap.size w5 w7) := (unhide HB6).trans (hb7.mono (unhide HB6).size)
                clear hre2 hc2 hb7 HN2
                generalize newErr (freshT n) = F at *
                rcases unhide HC1 with ⟨hF, rfl⟩ | ⟨rfl, p1, rfl, -⟩
                · have hF2 : (F != 0) = true := by simpa using hF
                  clear hF HC1
                  go_wp2
                  go_ret
                  exact ⟨rfl, col, bs, (unhide HT5).below (unhide HB7), Ext.below ((unhide HW5).trans ((unhide HB7).mono (unhide HW5).size))⟩
                · clear HC1
                  go_wp2
                  go_ret
                  exact ⟨rfl, col, bs, (unhide HT5).below (unhide HB7), Ext.below ((unhide HW5).trans ((unhide HB7).mono (unhide HW5).size))⟩

end B0

end Go.Proofs.Ytgpplekabohneaa
