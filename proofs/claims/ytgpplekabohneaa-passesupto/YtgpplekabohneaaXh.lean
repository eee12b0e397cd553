/- A box of the statement's world turns; 'New' of the document. -/
import Derived.Test.YtgpplekabohneaaJk
import Derived.Test.YtgpplekabohneaaXc
import Derived.Test.YtgpplekabohneaaKy
import Derived.Test.YtgpplekabohneaaXk
namespace Go.Proofs.Ytgpplekabohneaa
open Go.RowKit

section
variable {w W w1 W1 w2 w' : World} {B : Nat} {col col' : Nat → Nat} {wb i : Nat} {bs : List BX} {ps : List Pk} {nl yl : List (Value × Nat)} {c : Nat} {x : BX}

theorem boxR_tags {F : Nat → Prop} {b : Nat} {BB : List (Int × Tn)} (h : BoxR w F b BB) : BB.Pairwise (fun y z => y.1 ≠ z.1) ∧ ∀ y ∈ BB, GoodT y.2 := by
  obtain ⟨r, C, h1, rfl, _, _⟩ := h
  refine ⟨List.pairwise_map.2 (h1.apart.imp (fun hh => hh.1)), fun y hy => ?_⟩
  obtain ⟨z, hz, rfl⟩ := List.mem_map.1 hy
  exact (h1.ten z hz).1.good

theorem BXok.tags (h : BXok w col i x) : x.ts.Pairwise fun y z => y.tag ≠ z.tag := by
  have h1 := (boxR_tags h.box).1
  rw [List.pairwise_iff_getElem] at h1 ⊢
  intro a b ha hb hab
  have := h1 a b (by rw [absB_len]; exact ha) (by rw [absB_len]; exact hb) hab
  rw [absB_at, absB_at] at this
  exact this

theorem BXok.good (h : BXok w col i x) : ∀ j (hj : j < x.ts.length), GoodT (absT x.ts[j] j x.L) := fun j hj => by
  have hj' : j < (absB x.ts x.L).length := by rw [absB_len]; exact hj
  have h1 := (boxR_tags h.box).2 _ (List.getElem_mem hj')
  rw [absB_at] at h1
  exact h1

theorem mem_abs {L : List RCl} {y : RCl} (h : y ∈ L) : y.m ∈ absM L y.t := List.mem_map.2 ⟨y, List.mem_filter.2 ⟨h, by simp⟩, rfl⟩

theorem BXok.place (h : BXok w col i x) : ∀ y ∈ x.L, y.t < x.ts.length := fun y hy => by
  refine Classical.byContradiction (fun hn => ?_)
  have h1 := mem_abs hy
  rw [h.far y.t (by omega)] at h1
  cases h1

theorem BXok.each (h : BXok w col i x) {P : Mp → Prop} (hP : ∀ z ∈ absB x.ts x.L, ∀ m ∈ z.2.maps, P m) : ∀ y ∈ x.L, P y.m := fun y hy => by
  have hj := h.place y hy
  have hj' : y.t < (absB x.ts x.L).length := by rw [absB_len]; exact hj
  refine hP _ (List.getElem_mem hj') y.m ?_
  rw [absB_at]
  exact mem_abs hy

theorem BXok.len (h : BXok w col i x) : x.L.length < 2000 := by
  have h1 := abs_few (M := 192) x.ts.length h.place (fun j => by
    by_cases hj : j < x.ts.length
    · exact good_few (h.good j hj)
    · rw [h.far j (by omega)]
      exact Nat.zero_le _)
  have := h.few
  omega

theorem BXok.idle (h : BXok w col i x) : ∀ y ∈ x.L, 0 ≤ y.m.idle ∧ y.m.idle < 1000 := by
  refine h.each (P := fun m => 0 ≤ m.idle ∧ m.idle < 1000) (fun z hz m hm => ?_)
  have := ((boxR_tags h.box).2 z hz).ok m hm
  exact ⟨this.2.2.2.2.2.1, this.2.2.2.2.2.2⟩

/-- what had no colour is as it was, and has none -/
def Ext (w w' : World) (col col' : Nat → Nat) : Prop := Fr (fun k => col k ≠ 0) w w' ∧ ∀ q, q < w.heap.size → col q = 0 → col' q = 0

theorem Ext.trans {col1 : Nat → Nat} (h : Ext w w1 col col1) (k : Ext w1 w2 col1 col') : Ext w w2 col col' :=
  ⟨h.1.trans' k.1 (fun q hq hl h0 => hq (h.2 q hl h0)), fun q hq h0 => k.2 q (Nat.lt_of_lt_of_le hq h.1.size) (h.2 q hq h0)⟩

theorem Ext.below (hb : Below w.heap.size w w') : Ext w w' col col := ⟨Fr.of_below hb, fun _ _ h => h⟩

theorem WI.cb (h : WI w B col wb bs ps nl yl c) : ∀ k, col k ≠ 0 → B ≤ k ∧ k < w.heap.size := by
  obtain ⟨rv, ln, xs, hW, _⟩ := h.rows
  exact hW.cb

theorem WI.base (h : WI w B col wb bs ps nl yl c) : wb < w.heap.size ∧ B ≤ wb ∧ col wb = 1 := by
  obtain ⟨rv, ln, xs, hW, _⟩ := h.rows
  exact ⟨hW.bound.1, hW.bound.2, hW.cw⟩

/-- nothing that has a colour turns -/
theorem WI.free (h : WI w B col wb bs ps nl yl c) (hF : Fr (fun k => col k = 0) w w') : WI w' B col wb bs ps nl yl c := by
  have hcb : ∀ k, col k ≠ 0 → k < w.heap.size := fun k hk => (h.cb k hk).2
  have hT : Turn (fun _ => False) B w w' col col := Turn.free hcb hF
  obtain ⟨rv, ln, xs, hW, hX⟩ := h.rows
  exact ⟨⟨rv, ln, xs, hW.turn hT (fun _ _ _ f => f), hX⟩, fun j hj => (h.boxes j hj).turn hT (Calm.of hF) (fun f => f) (fun f => f) (fun k hk => Nat.lt_of_lt_of_le (hcb k hk) hF.size), fun p hp => ⟨(h.nums p hp).1.keep hT.size (hT.at (by decide) (fun f => f)), (h.nums p hp).2⟩, fun p hp => ⟨(h.marks p hp).1.keep hT.size (hT.at (by decide) (fun f => f)), (h.marks p hp).2⟩, h.nb, h.np, h.few⟩

theorem WI.below (h : WI w B col wb bs ps nl yl c) (hb : Below w.heap.size w w') : WI w' B col wb bs ps nl yl c := h.free (Fr.of_below hb)

theorem boxC_set (bs : List BX) (i : Nat) (x : BX) (hi : i < bs.length) (hb : x.b = bs[i].b) (hr : x.r = bs[i].r) : boxC (bs.set i x) = boxC bs := by
  unfold boxC
  rw [List.flatMap_def, List.flatMap_def]
  congr 1
  refine List.ext_getElem (by simp) (fun j h1 h2 => ?_)
  rw [List.getElem_map, List.getElem_map, List.getElem_set]
  split
  · rename_i e
    subst e
    rw [hb, hr]
  · rfl

def paintR (col : Nat → Nat) (a b c : Nat) : Nat → Nat := fun k => if a ≤ k ∧ k < b then c else col k

/-- a box turns: the program's, then the document's -/
theorem WI.both (h : WI w B col wb bs ps nl yl c) (hi : i < bs.length) (hbW : Below w.heap.size w W) {BB : List (Int × Tn)} {lv' : Value} {L' : List RCl}
    (hF1 : Fr (fun k => col k = 9 + 2 * i) W w1) (hB1 : BoxR w1 (grow (fun k => col k = 9 + 2 * i) W w1) bs[i].b BB) (hb1 : Below w1.heap.size w1 W1)
    (hF2 : Fr (fun k => col k = 10 + 2 * i) W1 w2) (hR2 : RefR w2 (grow (fun k => col k = 10 + 2 * i) W1 w2) bs[i].r bs[i].tv lv' bs[i].ts L') (hE : absB bs[i].ts L' = BB) (hfar : ∀ j, bs[i].ts.length ≤ j → absM L' j = []) (hx : okXB BB) (hp : okPB BB) (hb2 : Below w2.heap.size w2 w') :
    WI w' B (paintR (paintR col W.heap.size w1.heap.size (9 + 2 * i)) W1.heap.size w2.heap.size (10 + 2 * i)) wb (bs.set i ⟨bs[i].b, bs[i].r, bs[i].tv, lv', bs[i].ts, L'⟩) ps nl yl c ∧
      Ext w w' col (paintR (paintR col W.heap.size w1.heap.size (9 + 2 * i)) W1.heap.size w2.heap.size (10 + 2 * i)) := by
  have s1 := hbW.size
  have s2 := hF1.size
  have s3 := hb1.size
  have s4 := hF2.size
  have s5 := hb2.size
  have hcb := h.cb
  have hwb := h.base
  obtain ⟨col2, hcol2⟩ : ∃ f, paintR (paintR col W.heap.size w1.heap.size (9 + 2 * i)) W1.heap.size w2.heap.size (10 + 2 * i) = f := ⟨_, rfl⟩
  have cold : ∀ k, k < w.heap.size → col2 k = col k := fun k hk => by
    rw [← hcol2]
    unfold paintR
    rw [if_neg (by omega), if_neg (by omega)]
  have c1 : ∀ k, W.heap.size ≤ k → k < w1.heap.size → col2 k = 9 + 2 * i := fun k h1 h2 => by
    rw [← hcol2]
    unfold paintR
    rw [if_neg (by omega), if_pos ⟨h1, h2⟩]
  have c2 : ∀ k, W1.heap.size ≤ k → k < w2.heap.size → col2 k = 10 + 2 * i := fun k h1 h2 => by
    rw [← hcol2]
    unfold paintR
    rw [if_pos ⟨h1, h2⟩]
  have cnew : ∀ k, col2 k ≠ 0 → (k < w.heap.size ∧ col k ≠ 0) ∨ (w.heap.size ≤ k ∧ k < w'.heap.size) := fun k hk => by
    rw [← hcol2] at hk
    unfold paintR at hk
    split at hk
    · exact .inr ⟨by omega, by omega⟩
    · split at hk
      · exact .inr ⟨by omega, by omega⟩
      · exact .inl ⟨(hcb k hk).2, hk⟩
  rw [hcol2]
  have hblk : ∀ k, k < w.heap.size → col k ≠ 9 + 2 * i → col k ≠ 10 + 2 * i → w'.heap[k]? = w.heap[k]? := fun k hk n1 n2 =>
    (hb2.block k (by omega)).trans ((hF2.block k (by omega) n2).trans ((hb1.block k (by omega)).trans ((hF1.block k (by omega) n1).trans (hbW.block k hk))))
  have hT : Turn (fun y => y = 9 + 2 * i ∨ y = 10 + 2 * i) B w w' col col2 := by
    refine ⟨by omega, fun k hk h0 hn => hblk k hk (fun e => hn (.inl e)) (fun e => hn (.inr e)), fun k hk _ => cold k hk, fun k hk => ?_⟩
    rcases cnew k hk with h1 | h1
    · exact .inl h1
    · exact .inr ⟨by omega, h1.2⟩
  have hcb' : ∀ k, col2 k ≠ 0 → k < w'.heap.size := fun k hk => by
    rcases cnew k hk with h1 | h1
    · omega
    · exact h1.2
  have calm : Calm w w' := by
    have a1 := Calm.of (Fr.of_below (X := fun _ => False) hbW)
    have a2 := Calm.of hF1
    have a3 := Calm.of (Fr.of_below (X := fun _ => False) hb1)
    have a4 := Calm.of hF2
    have a5 := Calm.of (Fr.of_below (X := fun _ => False) hb2)
    exact ⟨a5.1.trans (a4.1.trans (a3.1.trans (a2.1.trans a1.1))), a5.2.1.trans (a4.2.1.trans (a3.2.1.trans (a2.2.1.trans a1.2.1))), a5.2.2.trans (a4.2.2.trans (a3.2.2.trans (a2.2.2.trans a1.2.2)))⟩
  have calm1 : Calm w1 w' := by
    have a3 := Calm.of (Fr.of_below (X := fun _ => False) hb1)
    have a4 := Calm.of hF2
    have a5 := Calm.of (Fr.of_below (X := fun _ => False) hb2)
    exact ⟨a5.1.trans (a4.1.trans a3.1), a5.2.1.trans (a4.2.1.trans a3.2.1), a5.2.2.trans (a4.2.2.trans a3.2.2)⟩
  obtain ⟨rv, ln, xs, hW, hX⟩ := h.rows
  refine ⟨⟨⟨rv, ln, xs, hW.turn hT (fun y _ _ => by omega), ?_⟩, ?_, fun p hp => ⟨(h.nums p hp).1.keep hT.size (hT.at (by decide) (by omega)), (h.nums p hp).2⟩, fun p hp => ⟨(h.marks p hp).1.keep hT.size (hT.at (by decide) (by omega)), (h.marks p hp).2⟩, by rw [List.length_set]; exact h.nb, h.np, h.few⟩, ?_⟩
  · exact { hX with l2 := by rw [List.length_set]; exact hX.l2, x2 := by rw [boxC_set bs i ⟨bs[i].b, bs[i].r, bs[i].tv, lv', bs[i].ts, L'⟩ hi rfl rfl]; exact hX.x2 }
  · intro j hj
    have hj' : j < bs.length := by rw [List.length_set] at hj; exact hj
    rw [List.getElem_set]
    split
    · rename_i e
      subst e
      have hold := h.boxes i hi
      refine ⟨?_, ?_, ?_, ?_, hold.tens, hfar, hold.few⟩
      · show BoxR w' (fun k => col2 k = 9 + 2 * i) bs[i].b (absB bs[i].ts L')
        rw [hE]
        refine boxR_keep hB1 (fun k hk => ?_) (fun k hk => hcb' k (by omega)) calm1 (by omega)
        rcases hk with hk | hk
        · have hl := (hcb k (by omega)).2
          exact ⟨(cold k hl).trans hk, (hb2.block k (by omega)).trans ((hF2.block k (by omega) (by omega)).trans (hb1.block k (by omega)))⟩
        · have h0 : col k = 0 := Classical.byContradiction (fun hn => by have := (hcb k hn).2; omega)
          exact ⟨c1 k hk.1 hk.2, (hb2.block k (by omega)).trans ((hF2.block k (by omega) (by omega)).trans (hb1.block k (by omega)))⟩
      · show RefR w' (fun k => col2 k = 10 + 2 * i) bs[i].r bs[i].tv lv' bs[i].ts L'
        refine refR_keep hR2 (fun k hk => ?_) (fun k hk => hcb' k (by omega)) (Calm.of (Fr.of_below (X := fun _ => False) hb2)) (by omega)
        rcases hk with hk | hk
        · have hl := (hcb k (by omega)).2
          exact ⟨(cold k hl).trans hk, hb2.block k (by omega)⟩
        · exact ⟨c2 k hk.1 hk.2, hb2.block k hk.2⟩
      · show okXB (absB bs[i].ts L')
        rw [hE]
        exact hx
      · show okPB (absB bs[i].ts L')
        rw [hE]
        exact hp
    · rename_i e
      exact (h.boxes j hj').turn hT calm (by omega) (by omega) hcb'
  · refine ⟨?_, fun q hq h0 => (cold q hq).trans h0⟩
    obtain ⟨a1, a2, a3⟩ := calm
    exact ⟨a1, a2, a3, by omega, fun k hk hn => hblk k hk (fun e => hn (by omega)) (fun e => hn (by omega))⟩

end

end Go.Proofs.Ytgpplekabohneaa

namespace Go.Proofs.Ytgpplekabohneaa.B0
open Go.RowKit

attribute [local go_sem ↓] Go.wp_at_zero Go.wp_at_succ

/-- the document's box: its tenants, no mappings -/
def RefBox2 (w : World) (S : Nat → Prop) (q : Nat) (ts : List Ten) : Prop :=
  S q ∧ ts.length ≤ 8 ∧ (∀ t ∈ ts, okT t = true) ∧ ∃ v, w.heap[q]? = some (.cells #[v, .slice none 0 0] 137 (0, 0)) ∧ w.ownsRow 0 73 4 v ts.length (tenCells ts) ∧ ∀ k, v.ownBlock = some k → S k

def RefEnd2 (w : World) (ts : List Ten) (e : Ending) (w' : World) : Prop :=
  Below w.heap.size w w' ∧ ((newErr ts ≠ 0 ∧ e = .returned (.tuple #[.pointer none, .int .i64 (newErr ts)])) ∨
    (newErr ts = 0 ∧ ∃ q, e = .returned (.tuple #[.pointer (some ⟨q, 0, none⟩), .int .i64 0]) ∧ RefBox2 w' (fun k => w.heap.size ≤ k) q ts))

set_option maxRecDepth 100000 in
theorem refNew2_nil (w : World) : Calls Try.prog 55 #[.slice none 0 0] w fun e w' => RefEnd2 w [] e w' := by
  go_enter Try.func55, Try.ntmps55
  go_wp2
  go_loopg [5] 1 (fun k i wr => i = .int .i64 0 ∧ wr = w.alloc (.cells #[.slice none 0 0, .slice none 0 0] 137))
  case atStart => exact ⟨rfl, rfl⟩
  case round =>
    obtain ⟨rfl, hwr⟩ := hrel
    have HW := hide hwr
    clear hwr
    go_wp2
    go_ret2
    have hwr := unhide HW
    refine ⟨?_, .inr ⟨rfl, _, rfl, ?_⟩⟩
    · rw [hwr]
      exact (Below.refl _ _).alloc (Nat.le_refl _) _
    · exact ⟨Nat.le_refl _, by simp, by simp, .slice none 0 0, by rw [hwr]; exact blkN _ _ _ rfl, World.ownsRow_nil _ _ _ _, fun k hk => by cases hk⟩

set_option maxRecDepth 100000 in
set_option maxHeartbeats 1000000 in
theorem refNew2_some (b off n cap : Nat) (ts : List Ten) (w : World) (hn : n = ts.length) (_hc : n ≤ cap) (hm : cap ≤ maxLen) (hb : b < w.heap.size) (hT : TenAt w b off ts) :
    Calls Try.prog 55 #[.slice (some ⟨b, off, none⟩) n cap] w fun e w' => RefEnd2 w ts e w' := by
  have hm0 := hm
  unfold maxLen at hm
  have HT : Hid (TenAt w b off ts) := hT
  have HN : Hid (n = ts.length) := hn
  clear hT hn
  by_cases h8 : 8 < n
  · have hfin : Hid (newErr ts = 1) := by unfold newErr; rw [if_pos (by have := HN.out; omega)]; rfl
    go_enter Try.func55, Try.ntmps55
    go_wp2
    go_ret2
    exact ⟨Below.refl _ _, .inl ⟨by rw [hfin.out]; decide, by rw [hfin.out]; rfl⟩⟩
  · have hnew : Hid (newErr ts = errFrom [] ts) := by unfold newErr; rw [if_neg (by have := HN.out; omega)]; rfl
    go_enter Try.func55, Try.ntmps55
    go_wp2
    go_loopg [5] n (fun k i wr => ∃ (j : Nat) (v : Value), j ≤ n ∧ k = n - j ∧ i = .int .i64 j ∧ newErr ts = errFrom (ts.take j) (ts.drop j) ∧ Below w.heap.size w wr ∧ w.heap.size < wr.heap.size ∧
      wr.heap[w.heap.size]? = some (.cells #[v, .slice none 0 0] 137 (0, 0)) ∧ wr.ownsRow (w.heap.size + 1) 73 4 v j (tenCells (ts.take j)) ∧ ∀ t ∈ ts.take j, okT t = true)
    case atStart => exact ⟨0, .slice none 0 0, Nat.zero_le _, by omega, rfl, hnew.out, (Below.refl _ _).alloc (Nat.le_refl _) _, by simp, blkN _ _ _ rfl, World.ownsRow_nil _ _ _ _, by simp⟩
    case round =>
      obtain ⟨j, v, hj, hk, rfl, her, hbl, hsz, hbox, hown, hoks⟩ := hrel
      have HK := hide hk
      have HE := hide her
      have HB := hide hbl
      have HX := hide hbox
      have HO := hide hown
      have HS := hide hoks
      clear hk her hnew hbox hown hoks
      by_cases hlt : j < n
      · have hjt : j < ts.length := by have := HN.out; omega
        obtain ⟨g0, g1, g2, g3⟩ := (HT.out.below hbl hb) j hjt
        clear hbl
        have HEA := errFrom_at ts j hjt
        have hsn := List.take_succ_eq_append_getElem hjt
        generalize hT0 : ts[j] = t at *
        obtain ⟨x0, x1, x2, x3⟩ := t
        simp only at g0 g1 g2 g3
        have HA := hide HEA
        have HSN := hide hsn
        have HOS := hide (okT_split x0 x1 x2 x3)
        clear HEA hT0 hsn
        have hbad : okT ⟨x0, x1, x2, x3⟩ = false → newErr ts = 2 := by
          intro hok
          rw [unhide HE, unhide HA, hok]; rfl
        have HBAD := hide hbad
        clear hbad
        by_cases hok : okT ⟨x0, x1, x2, x3⟩ = true
        · have hsp := unhide HOS
          rw [hok] at hsp
          simp at hsp
          obtain ⟨⟨⟨⟨⟨a1, a2⟩, a3⟩, a4⟩, a5⟩, a6⟩ := hsp
          have hspan := okT_spans hok
          have HOK := hide hok
          clear HBAD HOS hok
          obtain ⟨b1, b2⟩ := hspan
          go_wp2_with (go_at_call 91; refine (within_any _ _ _ _).mono ?_; rintro e w' ⟨rfl, rfl⟩)
          obtain ⟨wo, hwo⟩ : ∃ wo, wo = wr := ⟨_, rfl⟩
          subst hwo
          go_loopg [11] j (fun z i w2 => ∃ m : Nat, m ≤ j ∧ z = j - m ∧ i = .int .i64 m ∧ twiceIn (ts.take m) ⟨x0, x1, x2, x3⟩ = false ∧ Below (wo.heap.size + 1) (wo.alloc (.cells #[.int .i64 x0, .int .i64 x1, .int .i64 x2, .int .i64 x3] 73)) w2)
          case atStart => exact ⟨0, Nat.zero_le _, by omega, rfl, rfl, Below.refl _ _⟩
          case round =>
            obtain ⟨m, hmj, hz, rfl, htw, hb2⟩ := hrel
            have HZ := hide hz
            have HW := hide htw
            have HB2 := hide hb2
            have hs2 : wo.heap.size + 1 ≤ wr.heap.size := by have := hb2.size; simpa using this
            have t0 : wr.cell? ⟨wo.heap.size, 0, none⟩ = some (.int .i64 x0) := (hb2.cell (p := ⟨wo.heap.size, 0, none⟩) (by simp)).trans (by simp)
            have t1 : wr.cell? ⟨wo.heap.size, 1, none⟩ = some (.int .i64 x1) := (hb2.cell (p := ⟨wo.heap.size, 1, none⟩) (by simp)).trans (by simp)
            have HBW := hide ((HB.out.alloc (by omega) _).trans (hb2.mono (by omega)))
            clear hz htw hb2 g0 g1 g2 g3
            by_cases hmlt : m < j
            · have hmt : m < ts.length := by omega
              obtain ⟨g0, g1, _, _⟩ := (HT.out.below (unhide HBW) hb) m hmt
              have hst := twiceIn_snoc ts ⟨x0, x1, x2, x3⟩ m hmt
              have htr := fun hh => twiceIn_take_true (ts := ts) (t := ⟨x0, x1, x2, x3⟩) hmlt hmt hh
              rw [unhide HW] at hst
              generalize ts[m].tag = y0 at *
              generalize ts[m].outer = y1 at *
              have HST := hide hst
              have HTR := hide htr
              have hmn : (m : Int) < (n : Int) := by omega
              clear hst htr
              cases e0 : (y0 == x0)
              · cases e1 : (y1 == x1)
                · go_wp2
                  go_quiet (fail)
                  go_wp2
                  go_roundg (j - (m + 1))
                  case measure => have := unhide HZ; omega
                  case rel => exact ⟨m + 1, by omega, rfl, by go_num, by rw [unhide HST, e0, e1]; rfl, (unhide HB2).trans ⟨rfl, rfl, rfl, by simp, fun _ _ => rfl⟩⟩
                · have hfin : Hid (newErr ts = 3) := by
                    show newErr ts = 3
                    rw [unhide HE, unhide HA, unhide HOK, unhide HTR (by rw [e0, e1]; rfl)]; rfl
                  go_wp2
                  go_quiet (fail)
                  go_wp2
                  go_ret2
                  exact ⟨(unhide HBW).trans ⟨rfl, rfl, rfl, by simp, fun _ _ => rfl⟩, .inl ⟨by rw [unhide hfin]; decide, by rw [unhide hfin]; rfl⟩⟩
              · have hfin : Hid (newErr ts = 3) := by
                  show newErr ts = 3
                  rw [unhide HE, unhide HA, unhide HOK, unhide HTR (by rw [e0]; rfl)]; rfl
                go_wp2
                go_quiet (fail)
                go_wp2
                go_ret2
                exact ⟨(unhide HBW).trans ⟨rfl, rfl, rfl, by simp, fun _ _ => rfl⟩, .inl ⟨by rw [unhide hfin]; decide, by rw [unhide hfin]; rfl⟩⟩
            · have hmj2 : m = j := by omega
              have HW2 := unhide HW
              rw [hmj2] at HW2
              have HW3 := hide HW2
              clear HW2 HW hmj2
              have HNX : Hid (newErr ts = errFrom (ts.take (j + 1)) (ts.drop (j + 1))) := by
                show newErr ts = _
                rw [unhide HE, unhide HA, unhide HOK, unhide HW3]; rfl
              have hq0 : wr.heap[w.heap.size]? = some (.cells #[v, .slice none 0 0] 137 (0, 0)) := ((unhide HB2).block w.heap.size (by omega)).trans (blkA (unhide HX))
              have ho0 : wr.ownsRow (w.heap.size + 1) 73 4 v j (tenCells (ts.take j)) := ownsRow_of_below ((unhide HO).alloc _) (by simpa using unhide HB2)
              have hvb : ∀ k, v.ownBlock = some k → w.heap.size + 1 ≤ k ∧ k < wo.heap.size := (unhide HO).lt
              have hX : ∀ X, (wr.alloc X).heap[w.heap.size]? = some (.cells #[v, .slice none 0 0] 137 (0, 0)) := fun X => blkA hq0
              have hO : ∀ X, (wr.alloc X).ownsRow (w.heap.size + 1) 73 4 v j (tenCells (ts.take j)) := fun X => ho0.alloc X
              have c0 : wr.cell? ⟨w.heap.size, 0, none⟩ = some v := by simp [World.cell?, hq0]
              have t2 : wr.cell? ⟨wo.heap.size, 2, none⟩ = some (.int .i64 x2) := ((unhide HB2).cell (p := ⟨wo.heap.size, 2, none⟩) (by simp)).trans (by simp)
              have t3 : wr.cell? ⟨wo.heap.size, 3, none⟩ = some (.int .i64 x3) := ((unhide HB2).cell (p := ⟨wo.heap.size, 3, none⟩) (by simp)).trans (by simp)
              have f0 : wr.frozen? ⟨w.heap.size, 0, none⟩ = false := by simp [World.frozen?, hq0]
              have Z1 : Hid (v.ownBlock ≠ some w.heap.size) := fun e => by have := hvb _ e; omega
              have Z2 : Hid (v.ownBlock ≠ some wo.heap.size) := fun e => by have := hvb _ e; omega
              have HXX := hide hX
              have HOO := hide hO
              have HVB := hide hvb
              obtain ⟨i0, hi, hz0, hz1, hz2⟩ := info_parts info73
              have HI := hide (And.intro hi (And.intro hz0 (And.intro hz1 hz2)))
              have ca : ∀ X, (wr.alloc X).cell? ⟨w.heap.size, 0, none⟩ = some v := fun X => cellA c0
              have ta0 : ∀ X, (wr.alloc X).cell? ⟨wo.heap.size, 0, none⟩ = some (.int .i64 x0) := fun X => cellA t0
              have ta1 : ∀ X, (wr.alloc X).cell? ⟨wo.heap.size, 1, none⟩ = some (.int .i64 x1) := fun X => cellA t1
              have ta2 : ∀ X, (wr.alloc X).cell? ⟨wo.heap.size, 2, none⟩ = some (.int .i64 x2) := fun X => cellA t2
              have ta3 : ∀ X, (wr.alloc X).cell? ⟨wo.heap.size, 3, none⟩ = some (.int .i64 x3) := fun X => cellA t3
              clear hX hO hvb hq0 ho0 hi hz0 hz1 hz2
              go_wp2
              go_region_law
                ((refine step_append_x _ (by rfl) _ _ _ (by rfl) (w.heap.size + 1) 73 i0 _ 4 32 Try.underlying74 (unhide HI).1 (unhide HI).2.1 (unhide HI).2.2.1 (unhide HI).2.2.2 rfl (by omega) v j (tenCells (ts.take j)) (by rfl) (by exact unhide HOO _) ⟨wr.heap.size, 0, none⟩ 1 1 [.int .i64 x0, .int .i64 x1, .int .i64 x2, .int .i64 x3] (by rfl) (by rfl) (World.news_of_block (by exact blkN wr _ _ rfl)) (by simp [Value.oneCell']) (by omega) (by unfold maxLen; omega) (by omega) (by simp; omega) ?_; intro g cap5 w5 hown5 hgr5;
                  have kp : (∀ (k : Nat), k < wr.heap.size → v.ownBlock ≠ some k → w5.heap[k]? = wr.heap[k]?) := (fun (k : Nat) (hk : k < wr.heap.size) (hne : v.ownBlock ≠ some k) => (kept_x hgr5 (by simp; omega) hne).trans (Below.heap_alloc wr _ k hk));
                  have k0 : w5.cell? ⟨w.heap.size, 0, none⟩ = some v := (World.cell?_of_block (a := ⟨w.heap.size, 0, none⟩) (kp w.heap.size (by omega) (unhide Z1))).trans c0;
                  have k1 : (∀ o, w5.cell? ⟨wo.heap.size, o, none⟩ = wr.cell? ⟨wo.heap.size, o, none⟩) := (fun o => World.cell?_of_block (a := ⟨wo.heap.size, o, none⟩) (kp wo.heap.size (by omega) (unhide Z2)));
                  have fz : w5.frozen? ⟨w.heap.size, 0, none⟩ = false := (World.frozen?_of_block (a := ⟨w.heap.size, 0, none⟩) (kp w.heap.size (by omega) (unhide Z1))).trans f0;
                  have HOWN5 := hide hown5; have HGR5 := hide hgr5; clear hown5 hgr5 kp))
              all_goals
                clear k0 k1 fz
                go_wp2
                go_roundg (n - (j + 1))
                case measure => have := unhide HK; omega
                case rel =>
                  have hbw : Below w.heap.size w (wr.alloc (Obj.cells #[Value.int IntKind.i64 x0, Value.int IntKind.i64 x1, Value.int IntKind.i64 x2, Value.int IntKind.i64 x3] 73)).drew := ((unhide HBW).alloc (by omega) _).drew
                  obtain ⟨s1, s2, s3, s4⟩ := ref_step (W := (wr.alloc (Obj.cells #[Value.int IntKind.i64 x0, Value.int IntKind.i64 x1, Value.int IntKind.i64 x2, Value.int IntKind.i64 x3] 73)).drew) (W0 := wr.alloc (Obj.cells #[Value.int IntKind.i64 x0, Value.int IntKind.i64 x1, Value.int IntKind.i64 x2, Value.int IntKind.i64 x3] 73)) rfl hbw (unhide HXX _) (fun k hk => ((unhide HVB) k hk).1) (unhide HOWN5) (unhide HGR5)
                  refine ⟨j + 1, _, by omega, rfl, by go_num, unhide HNX, s1, s2, s3, ?_, ?_⟩
                  · rw [unhide HSN]
                    have e : tenCells (ts.take j ++ [⟨x0, x1, x2, x3⟩]) = tenCells (ts.take j) ++ [.int .i64 x0, .int .i64 x1, .int .i64 x2, .int .i64 x3] := by simp [tenCells]
                    rw [e]
                    exact s4
                  · intro t ht
                    rw [unhide HSN] at ht
                    rcases List.mem_append.1 ht with ht | ht
                    · exact (unhide HS) t ht
                    · simp at ht
                      rw [ht]
                      exact unhide HOK
        · have hok' : okT ⟨x0, x1, x2, x3⟩ = false := by simpa using hok
          have hfin := hide (unhide HBAD hok')
          have hsp := unhide HOS
          rw [hok'] at hsp
          have HSP := hide hsp
          clear hok hok' HOS HBAD hsp
          cases a1 : inB x0 1 4094
          · go_wp2_with (go_at_call 91; refine (within_any _ _ _ _).mono ?_; rintro e w' ⟨rfl, rfl⟩)
            go_ret2
            exact ⟨HB.out.alloc (by omega) _, .inl ⟨by rw [unhide hfin]; decide, by rw [unhide hfin]; rfl⟩⟩
          cases a2 : inB x1 0 4294967295
          · go_wp2_with (go_at_call 91; refine (within_any _ _ _ _).mono ?_; rintro e w' ⟨rfl, rfl⟩)
            go_ret2
            exact ⟨HB.out.alloc (by omega) _, .inl ⟨by rw [unhide hfin]; decide, by rw [unhide hfin]; rfl⟩⟩
          cases a3 : inB x2 0 65535
          · go_wp2_with (go_at_call 91; refine (within_any _ _ _ _).mono ?_; rintro e w' ⟨rfl, rfl⟩)
            go_ret2
            exact ⟨HB.out.alloc (by omega) _, .inl ⟨by rw [unhide hfin]; decide, by rw [unhide hfin]; rfl⟩⟩
          cases a4 : inB x3 0 65535
          · go_wp2_with (go_at_call 91; refine (within_any _ _ _ _).mono ?_; rintro e w' ⟨rfl, rfl⟩)
            go_ret2
            exact ⟨HB.out.alloc (by omega) _, .inl ⟨by rw [unhide hfin]; decide, by rw [unhide hfin]; rfl⟩⟩
          have hsp2 : ¬ x2 ≤ x3 ∨ ¬ x3 - x2 < 64 := by
            have hsp := unhide HSP
            rw [a1, a2, a3, a4] at hsp
            simp at hsp
            omega
          have hb3 : 0 ≤ x2 ∧ x2 ≤ 65535 := by simpa [inB] using a3
          have hb4 : 0 ≤ x3 ∧ x3 ≤ 65535 := by simpa [inB] using a4
          obtain ⟨c1, c2⟩ := hb3
          obtain ⟨c3, c4⟩ := hb4
          by_cases a5 : x3 < x2
          · clear hsp2
            go_wp2_with (go_at_call 91; refine (within_any _ _ _ _).mono ?_; rintro e w' ⟨rfl, rfl⟩)
            go_ret2
            exact ⟨HB.out.alloc (by omega) _, .inl ⟨by rw [unhide hfin]; decide, by rw [unhide hfin]; rfl⟩⟩
          · have a6 : ¬ x3 - x2 < 64 := by omega
            clear hsp2
            go_wp2_with (go_at_call 91; refine (within_any _ _ _ _).mono ?_; rintro e w' ⟨rfl, rfl⟩)
            go_ret2
            exact ⟨HB.out.alloc (by omega) _, .inl ⟨by rw [unhide hfin]; decide, by rw [unhide hfin]; rfl⟩⟩
      · have hjn : ts.take j = ts := List.take_of_length_le (by have := HN.out; omega)
        have hjl : j = ts.length := by have := HN.out; omega
        have h0 : newErr ts = 0 := by rw [unhide HE]; exact errFrom_end ts j (by omega)
        have H0 := hide h0
        have HJN := hide hjn
        have HJL := hide hjl
        clear h0 hjn hjl
        go_wp2
        go_ret2
        have hown := unhide HO
        have hoks := unhide HS
        rw [unhide HJN] at hown hoks
        have hjl := unhide HJL
        have hlen8 : ts.length ≤ 8 := by omega
        refine ⟨hbl, .inr ⟨unhide H0, _, rfl, Nat.le_refl _, hlen8, hoks, v, unhide HX, ?_⟩⟩
        exact ⟨by rw [← hjl]; exact row_keepB hown (Nat.zero_le _) (X := fun _ => False) (Fr.refl _ _) (fun _ _ _ f => f), fun k hk => by have := (hown.lt k hk).1; omega⟩

set_option maxRecDepth 100000 in
theorem refNew2_empty (tp : Option Addr) (tc : Nat) (w : World) : Calls Try.prog 55 #[.slice tp 0 tc] w fun e w' => RefEnd2 w [] e w' := by
  go_enter Try.func55, Try.ntmps55
  go_wp2
  go_loopg [5] 1 (fun k i wr => i = .int .i64 0 ∧ wr = w.alloc (.cells #[.slice none 0 0, .slice none 0 0] 137))
  case atStart => exact ⟨rfl, rfl⟩
  case round =>
    obtain ⟨rfl, hwr⟩ := hrel
    have HW := hide hwr
    clear hwr
    go_wp2
    go_ret2
    have hwr := unhide HW
    refine ⟨?_, .inr ⟨rfl, _, rfl, ?_⟩⟩
    · rw [hwr]
      exact (Below.refl _ _).alloc (Nat.le_refl _) _
    · exact ⟨Nat.le_refl _, by simp, by simp, .slice none 0 0, by rw [hwr]; exact blkN _ _ _ rfl, World.ownsRow_nil _ _ _ _, fun k hk => by cases hk⟩

theorem refNew2_any (v : Value) (ts : List Ten) (w : World) (h : TenArg w v ts) : Calls Try.prog 55 #[v] w fun e w' => RefEnd2 w ts e w' := by
  rcases h with (⟨rfl, rfl⟩ | ⟨b, off, cap, rfl, _, hc, hm, hb, hT⟩) | ⟨a, cap, rfl, rfl⟩
  · exact refNew2_nil w
  · exact refNew2_some b off ts.length cap ts w rfl hc hm hb hT
  · exact refNew2_empty _ _ w

theorem ref_end2 {w : World} {ts : List Ten} {e : Ending} {w' : World} (h : RefEnd2 w ts e w') : Below w.heap.size w w' ∧ ∃ pb : Option Addr, e = .returned (.tuple #[.pointer pb, .int .i64 (newErr ts)]) ∧
    ((newErr ts ≠ 0 ∧ pb = none) ∨ (newErr ts = 0 ∧ ∃ p, pb = some ⟨p, 0, none⟩ ∧ RefBox2 w' (fun k => w.heap.size ≤ k) p ts)) := by
  obtain ⟨hb, ⟨h1, rfl⟩ | ⟨h1, p, rfl, h2⟩⟩ := h
  · exact ⟨hb, none, rfl, .inl ⟨h1, rfl⟩⟩
  · exact ⟨hb, some ⟨p, 0, none⟩, by rw [h1], .inr ⟨h1, p, rfl, h2⟩⟩


end Go.Proofs.Ytgpplekabohneaa.B0
