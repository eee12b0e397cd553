/- What the model's passes keep. -/
import Derived.Test.YtgpplekabohneaaPq
import Derived.Test.YtgpplekabohneaaRy
namespace Go.Proofs.Ytgpplekabohneaa
open Go.RowKit

def R64 (x : Int) : Prop := -9223372036854775808 ≤ x ∧ x ≤ 9223372036854775807

theorem R64_wrap (x : Int) : Hid (R64 (IntKind.i64.wrap x)) := by
  refine hide ?_
  unfold R64
  rw [IntKind.wrap_i64]
  omega

theorem R64_wrap64 (x : Int) : Hid (R64 (wrap64 x)) := by
  refine hide ?_
  unfold R64 wrap64
  omega

theorem pick_in (c : Int) (n : Nat) (w : World) (hc : Hid (R64 c)) (hn : 0 < n) (hn' : n ≤ 100000) :
    Calls Try.prog 14 #[.int .i64 c, .int .i64 n] w fun e w' => ∃ k : Int, (0 ≤ k ∧ k < n) ∧ e = .returned (.int .i64 k) ∧ w' = w := by
  refine (pick_eq c n w (unhide hc).1 (unhide hc).2 hn hn').mono ?_
  rintro e w' ⟨rfl, rfl⟩
  have := pk_lt c n hn
  exact ⟨pk c n, by omega, rfl, rfl⟩

abbrev evO (k t a b c : Int) : Obj := .cells #[.int .i64 k, .int .i64 t, .int .i64 a, .int .i64 b, .int .i64 c] 30
abbrev pkO (p : Pk) : Obj := .cells (pkC p) 38
abbrev enO (a p : Int) : Obj := .cells #[.int .i64 a, .int .i64 p] 34
def pk3 (X Y : Int) (o : Bool) : Pk := ⟨X, Y, o, 0, 0, 0, 0, false, false, false, false, 0, 0, 0, 0⟩

/-- what 'packet' gives: a packet of a tenant 1 to 3, to no address beyond 3000 -/
structure PktOk (p : Pk) : Prop where
  tag : 1 ≤ p.tag ∧ p.tag ≤ 3
  good : goodB p = true
  da : p.da ≤ 3000

theorem pktOk (X Y : Int) (o : Bool) (sa sp da dp : Int) (sy fi rs er : Bool) (qa qp ra rp : Int) (hX : 1 ≤ X ∧ X ≤ 3) (hY : 1 ≤ Y ∧ Y ≤ 3) (h1 : 0 ≤ sa ∧ sa ≤ 3000) (h2 : 0 ≤ sp ∧ sp ≤ 104) (h3 : 0 ≤ da ∧ da ≤ 3000) (h4 : 0 ≤ dp ∧ dp ≤ 104)
    (h5 : er = true ∧ (0 ≤ qa ∧ qa ≤ 3000) ∧ (0 ≤ qp ∧ qp ≤ 104) ∧ (0 ≤ ra ∧ ra ≤ 3000) ∧ (0 ≤ rp ∧ rp ≤ 104) ∨ er = false ∧ qa = 0 ∧ qp = 0 ∧ ra = 0 ∧ rp = 0) (h6 : (Y = 2 ∧ er = false) ∨ (sy = false ∧ fi = false ∧ rs = false)) :
    PktOk ⟨X, Y, o, sa, sp, da, dp, sy, fi, rs, er, qa, qp, ra, rp⟩ := by
  refine ⟨hX, ?_, h3.2⟩
  have e : ∀ a p : Int, (0 ≤ a ∧ a ≤ 3000) → (0 ≤ p ∧ p ≤ 104) → endB a p = true := fun a p h h' => by unfold endB; simp only [decide_eq_true_eq]; omega
  unfold goodB quoteB markB
  dsimp only
  rw [e sa sp h1 h2, e da dp h3 h4]
  have hd : decide (1 ≤ Y ∧ Y ≤ 3) = true := by simp [hY]
  rw [hd]
  rcases h5 with ⟨rfl, a1, a2, a3, a4⟩ | ⟨rfl, rfl, rfl, rfl, rfl⟩
  · rw [e qa qp a1 a2, e ra rp a3 a4]
    rcases h6 with ⟨_, h⟩ | ⟨rfl, rfl, rfl⟩
    · cases h
    · simp
  · rcases h6 with ⟨rfl, _⟩ | ⟨rfl, rfl, rfl⟩
    · simp
    · simp

/-- the world on the way: the event's block, the answer's, and the packet's -/
structure PW (w wx : World) (k t a b c : Int) (pb : Nat) (cs : Array Value) : Prop where
  below : Below w.heap.size w wx
  ev : wx.heap[w.heap.size]? = some (evO k t a b c)
  rs : wx.heap[w.heap.size + 1]? = some (pkO pk0)
  pk : wx.heap[pb]? = some (.cells cs 38)
  lt : w.heap.size + 1 < pb

theorem lt_some {w : World} {k : Nat} {o : Obj} (h : w.heap[k]? = some o) : k < w.heap.size := (Array.getElem?_eq_some_iff.1 h).1

theorem keepA {w : World} {k : Nat} {o : Obj} (h : w.heap[k]? = some o) (o' : Obj) : (w.alloc o').drew.heap[k]? = some o :=
  (Below.heap_alloc w o' k (lt_some h)).trans h

theorem newA (w : World) (o' : Obj) (k : Nat) (h : k = w.heap.size) : (w.alloc o').drew.heap[k]? = some o' := blkN w o' k h

theorem keepS {w : World} {k : Nat} {o : Obj} (h : w.heap[k]? = some o) (b i : Nat) (v : Value) (hne : k ≠ b) : (w.setCell ⟨b, i, none⟩ v).heap[k]? = some o :=
  (Below.heap_setCell w ⟨b, i, none⟩ v k hne).trans h

theorem PW.allocD {w wx : World} {k t a b c : Int} {pb : Nat} {p : Array Value} (h : PW w wx k t a b c pb p) (o : Obj) : PW w (wx.alloc o).drew k t a b c pb p :=
  ⟨(h.below.alloc h.below.size o).drew, keepA h.ev o, keepA h.rs o, keepA h.pk o, h.lt⟩

theorem PW.other {w wx : World} {k t a b c : Int} {pb : Nat} {p : Array Value} (h : PW w wx k t a b c pb p) (g i : Nat) (v : Value) (hg : pb < g) : PW w (wx.setCell ⟨g, i, none⟩ v) k t a b c pb p :=
  have := h.lt
  ⟨h.below.setCell (by show w.heap.size ≤ g; omega) v, keepS h.ev _ _ _ (by omega), keepS h.rs _ _ _ (by omega), keepS h.pk _ _ _ (by omega), h.lt⟩

theorem PW.put {w wx : World} {k t a b c : Int} {pb : Nat} {p : Array Value} (h : PW w wx k t a b c pb p) (i : Nat) (v : Value) : PW w (wx.setCell ⟨pb, i, none⟩ v) k t a b c pb (p.setIfInBounds i v) :=
  have := h.lt
  ⟨h.below.setCell (by show w.heap.size ≤ pb; omega) v, keepS h.ev _ _ _ (by omega), keepS h.rs _ _ _ (by omega), setB h.pk i v, h.lt⟩

theorem PW.cells {w wx : World} {k t a b c : Int} {pb : Nat} {p : Array Value} (h : PW w wx k t a b c pb p) : wx.cell? ⟨w.heap.size, 0, none⟩ = some (.int .i64 k) ∧ wx.cell? ⟨w.heap.size, 1, none⟩ = some (.int .i64 t) ∧ wx.cell? ⟨w.heap.size, 2, none⟩ = some (.int .i64 a) ∧ wx.cell? ⟨w.heap.size, 3, none⟩ = some (.int .i64 b) ∧ wx.cell? ⟨w.heap.size, 4, none⟩ = some (.int .i64 c) ∧ w.heap.size < wx.heap.size := by
  have := h.ev
  refine ⟨?_, ?_, ?_, ?_, ?_, lt_some h.ev⟩ <;> simp [World.cell?, this]

theorem en_cells {w : World} {b : Nat} {a p : Int} (h : w.heap[b]? = some (enO a p)) : w.cell? ⟨b, 0, none⟩ = some (.int .i64 a) ∧ w.cell? ⟨b, 1, none⟩ = some (.int .i64 p) := by
  constructor <;> simp [World.cell?, h]

theorem froz {w : World} {b : Nat} {cs : Array Value} {t : TypeId} (h : w.heap[b]? = some (.cells cs t)) : ∀ o, w.frozen? ⟨b, o, none⟩ = false := by
  intro o
  simp [World.frozen?, h]

/-- the fifteen cells of a packet -/
def PCells (w : World) (b : Nat) (p : Pk) : Prop :=
  w.cell? ⟨b, 0, none⟩ = some (.int .i64 p.tag) ∧ w.cell? ⟨b, 1, none⟩ = some (.int .i64 p.proto) ∧ w.cell? ⟨b, 2, none⟩ = some (.bool p.out) ∧ w.cell? ⟨b, 3, none⟩ = some (.int .i64 p.sa) ∧ w.cell? ⟨b, 4, none⟩ = some (.int .i64 p.sp) ∧ w.cell? ⟨b, 5, none⟩ = some (.int .i64 p.da) ∧ w.cell? ⟨b, 6, none⟩ = some (.int .i64 p.dp) ∧ w.cell? ⟨b, 7, none⟩ = some (.bool p.syn) ∧ w.cell? ⟨b, 8, none⟩ = some (.bool p.fin) ∧ w.cell? ⟨b, 9, none⟩ = some (.bool p.rst) ∧ w.cell? ⟨b, 10, none⟩ = some (.bool p.err) ∧ w.cell? ⟨b, 11, none⟩ = some (.int .i64 p.qsa) ∧ w.cell? ⟨b, 12, none⟩ = some (.int .i64 p.qsp) ∧ w.cell? ⟨b, 13, none⟩ = some (.int .i64 p.qda) ∧ w.cell? ⟨b, 14, none⟩ = some (.int .i64 p.qdp)

theorem pcells {w : World} {b : Nat} {p : Pk} (h : w.heap[b]? = some (pkO p)) : PCells w b p := by
  unfold PCells
  refine ⟨?_, ?_, ?_, ?_, ?_, ?_, ?_, ?_, ?_, ?_, ?_, ?_, ?_, ?_, ?_⟩ <;> simp [World.cell?, h, pkC]

/-- beside it: the inner end's block, and the far one's -/
structure PF (w wx : World) (k t a b c : Int) (pb ib fb : Nat) (cs : Array Value) (ia ip fa fp : Int) : Prop where
  pw : PW w wx k t a b c pb cs
  bi : 0 ≤ ia ∧ ia ≤ 3000 ∧ 0 ≤ ip ∧ ip ≤ 104
  bf : 0 ≤ fa ∧ fa ≤ 3000 ∧ 0 ≤ fp ∧ fp ≤ 104
  hi : wx.heap[ib]? = some (enO ia ip)
  hf : wx.heap[fb]? = some (enO fa fp)
  l1 : pb < ib
  l2 : ib < fb

theorem PF.put {w wx : World} {k t a b c : Int} {pb ib fb : Nat} {p : Array Value} {ia ip fa fp : Int} (h : PF w wx k t a b c pb ib fb p ia ip fa fp) (i : Nat) (v : Value) : PF w (wx.setCell ⟨pb, i, none⟩ v) k t a b c pb ib fb (p.setIfInBounds i v) ia ip fa fp :=
  have := h.l1
  have := h.l2
  ⟨h.pw.put i v, h.bi, h.bf, keepS h.hi _ _ _ (by omega), keepS h.hf _ _ _ (by omega), h.l1, h.l2⟩

theorem PF.allocD {w wx : World} {k t a b c : Int} {pb ib fb : Nat} {p : Array Value} {ia ip fa fp : Int} (h : PF w wx k t a b c pb ib fb p ia ip fa fp) (o : Obj) : PF w (wx.alloc o).drew k t a b c pb ib fb p ia ip fa fp :=
  ⟨h.pw.allocD o, h.bi, h.bf, keepA h.hi o, keepA h.hf o, h.l1, h.l2⟩

theorem PF.far {w wx : World} {k t a b c : Int} {pb ib fb : Nat} {p : Array Value} {ia ip fa fp : Int} (h : PF w wx k t a b c pb ib fb p ia ip fa fp) (fa' fp' : Int) (hb : 0 ≤ fa' ∧ fa' ≤ 3000 ∧ 0 ≤ fp' ∧ fp' ≤ 104) : PF w ((wx.setCell ⟨fb, 0, none⟩ (.int .i64 fa')).setCell ⟨fb, 1, none⟩ (.int .i64 fp')) k t a b c pb ib fb p ia ip fa' fp' :=
  have := h.l1
  have := h.l2
  ⟨(h.pw.other fb _ _ (by omega)).other fb _ _ (by omega), h.bi, hb, keepS (keepS h.hi _ _ _ (by omega)) _ _ _ (by omega), setB (setB h.hf 0 _) 1 _, h.l1, h.l2⟩

/-- and the outer end's -/
structure PG (w wx : World) (k t a b c : Int) (pb ib fb ob : Nat) (cs : Array Value) (ia ip fa fp oa op : Int) : Prop where
  pf : PF w wx k t a b c pb ib fb cs ia ip fa fp
  bo : 0 ≤ oa ∧ oa ≤ 3000 ∧ 0 ≤ op ∧ op ≤ 104
  ho : wx.heap[ob]? = some (enO oa op)
  l3 : fb < ob

theorem PG.put {w wx : World} {k t a b c : Int} {pb ib fb ob : Nat} {p : Array Value} {ia ip fa fp oa op : Int} (h : PG w wx k t a b c pb ib fb ob p ia ip fa fp oa op) (i : Nat) (v : Value) : PG w (wx.setCell ⟨pb, i, none⟩ v) k t a b c pb ib fb ob (p.setIfInBounds i v) ia ip fa fp oa op :=
  have := h.pf.l1
  have := h.pf.l2
  have := h.l3
  ⟨h.pf.put i v, h.bo, keepS h.ho _ _ _ (by omega), h.l3⟩

theorem PG.eqv {w wx : World} {k t a b c : Int} {pb ib fb ob : Nat} {p q : Array Value} {ia ip fa fp oa op : Int} (h : PG w wx k t a b c pb ib fb ob p ia ip fa fp oa op) (e : p = q) : PG w wx k t a b c pb ib fb ob q ia ip fa fp oa op := e ▸ h

theorem PG.ends {w wx : World} {k t a b c : Int} {pb ib fb ob : Nat} {p : Pk} {ia ip fa fp oa op : Int} (h : PG w wx k t a b c pb ib fb ob (pkC p) ia ip fa fp oa op) (u1 u2 u3 u4 : Int) :
    PG w ((((wx.setCell ⟨pb, 3, none⟩ (.int .i64 u1)).setCell ⟨pb, 4, none⟩ (.int .i64 u2)).setCell ⟨pb, 5, none⟩ (.int .i64 u3)).setCell ⟨pb, 6, none⟩ (.int .i64 u4)) k t a b c pb ib fb ob (pkC { p with sa := u1, sp := u2, da := u3, dp := u4 }) ia ip fa fp oa op :=
  (((((((h.put 3 (.int .i64 u1)).eqv (q := pkC { p with sa := u1 }) rfl).put 4 (.int .i64 u2)).eqv (q := pkC { p with sa := u1, sp := u2 }) rfl).put 5 (.int .i64 u3)).eqv (q := pkC { p with sa := u1, sp := u2, da := u3 }) rfl).put 6 (.int .i64 u4)).eqv rfl

theorem PG.quot {w wx : World} {k t a b c : Int} {pb ib fb ob : Nat} {p : Pk} {ia ip fa fp oa op : Int} (h : PG w wx k t a b c pb ib fb ob (pkC p) ia ip fa fp oa op) (u1 u2 u3 u4 : Int) :
    PG w ((((wx.setCell ⟨pb, 11, none⟩ (.int .i64 u1)).setCell ⟨pb, 12, none⟩ (.int .i64 u2)).setCell ⟨pb, 13, none⟩ (.int .i64 u3)).setCell ⟨pb, 14, none⟩ (.int .i64 u4)) k t a b c pb ib fb ob (pkC { p with qsa := u1, qsp := u2, qda := u3, qdp := u4 }) ia ip fa fp oa op :=
  (((((((h.put 11 (.int .i64 u1)).eqv (q := pkC { p with qsa := u1 }) rfl).put 12 (.int .i64 u2)).eqv (q := pkC { p with qsa := u1, qsp := u2 }) rfl).put 13 (.int .i64 u3)).eqv (q := pkC { p with qsa := u1, qsp := u2, qda := u3 }) rfl).put 14 (.int .i64 u4)).eqv rfl

theorem PG.erro {w wx : World} {k t a b c : Int} {pb ib fb ob : Nat} {p : Pk} {ia ip fa fp oa op : Int} (h : PG w wx k t a b c pb ib fb ob (pkC p) ia ip fa fp oa op) :
    PG w (wx.setCell ⟨pb, 10, none⟩ (.bool true)) k t a b c pb ib fb ob (pkC { p with err := true }) ia ip fa fp oa op := (h.put 10 (.bool true)).eqv rfl

theorem PG.marks {w wx : World} {k t a b c : Int} {pb ib fb ob : Nat} {p : Pk} {ia ip fa fp oa op : Int} (h : PG w wx k t a b c pb ib fb ob (pkC p) ia ip fa fp oa op) (u1 u2 u3 : Bool) :
    PG w (((wx.setCell ⟨pb, 7, none⟩ (.bool u1)).setCell ⟨pb, 8, none⟩ (.bool u2)).setCell ⟨pb, 9, none⟩ (.bool u3)) k t a b c pb ib fb ob (pkC { p with syn := u1, fin := u2, rst := u3 }) ia ip fa fp oa op :=
  (((((h.put 7 (.bool u1)).eqv (q := pkC { p with syn := u1 }) rfl).put 8 (.bool u2)).eqv (q := pkC { p with syn := u1, fin := u2 }) rfl).put 9 (.bool u3)).eqv rfl

end Go.Proofs.Ytgpplekabohneaa

namespace Go.Proofs.Ytgpplekabohneaa
open Go.RowKit

theorem useF_mem {l : List Int} {a x : Int} (h : x ∈ useF l a) : x = a ∨ x ∈ l := by
  have h1 : ∀ y, y ∈ l.erase a ++ [a] → y = a ∨ y ∈ l := fun y hy => by
    rcases List.mem_append.1 hy with hy | hy
    · exact .inr (List.mem_of_mem_erase hy)
    · exact .inl (by simpa using hy)
  unfold useF at h
  split at h
  · exact h1 x (List.mem_of_mem_eraseIdx h)
  · exact h1 x h

theorem useF_has (l : List Int) (a : Int) : a ∈ useF l a := by
  unfold useF
  cases hl : l.erase a with
  | nil => simp
  | cons y r =>
    split
    · show a ∈ r ++ [a]
      simp
    · simp

theorem marksF_st {m : Mp} (h : 0 < m.st) (a b c d : Bool) : 0 < (marksF m a b c d).st := by
  unfold marksF
  dsimp only
  repeat' split
  all_goals first
    | exact h
    | exact (by decide : (0 : Int) < 1)
    | exact (by decide : (0 : Int) < 2)
    | exact (by decide : (0 : Int) < 3)

/-- what holds of a mapping besides: its peers lie low, there is one; its state -/
def pM (m : Mp) : Prop := (∀ a ∈ m.peers, a ≤ 3000) ∧ 1 ≤ m.peers.length ∧ (m.proto = 2 ↔ 0 < m.st)

structure InvT (t s : Int) (T : Tn) : Prop where
  outer : T.outer = 1000 * t
  low : T.low = 100
  high : T.high = 99 + s
  pm : ∀ m ∈ T.maps, pM m

theorem setM_mem {l : List Mp} {m y : Mp} (h : y ∈ setM l m) : y = m ∨ (y ∈ l ∧ isP m.proto m.port y = false) := by
  obtain ⟨z, hz, rfl⟩ := List.mem_map.1 h
  by_cases e : isP m.proto m.port z = true
  · rw [if_pos e]
    exact .inl rfl
  · rw [if_neg e]
    exact .inr ⟨hz, by simpa using e⟩

theorem mem_setM {l : List Mp} {m x : Mp} (hx : x ∈ l) (h1 : x.proto = m.proto) (h2 : x.port = m.port) : m ∈ setM l m := by
  refine List.mem_map.2 ⟨x, hx, ?_⟩
  rw [if_pos (isP_iff.2 ⟨h1, h2⟩)]

theorem InvT.inF {t s : Int} {T : Tn} (h : InvT t s T) (p : Pk) : InvT t s (inF T p).1 := by
  unfold Ytgpplekabohneaa.inF
  split
  · split
    · exact h
    · rename_i m hm
      split
      · have hmm := List.mem_of_find?_eq_some hm
        have hk := isP_iff.1 (List.find?_some hm)
        by_cases hp : p.proto = 2
        · refine ⟨h.outer, h.low, h.high, fun y hy => ?_⟩
          have hy' : y ∈ setM T.maps { marksF m p.out p.syn p.fin p.rst with idle := 0 } := by rw [if_pos hp] at hy; exact hy
          rcases setM_mem hy' with rfl | ⟨hy, _⟩
          · obtain ⟨a1, a2, a3⟩ := h.pm m hmm
            have e1 := marksF_peers m p.out p.syn p.fin p.rst
            refine ⟨?_, ?_, ?_⟩
            · show ∀ a ∈ (marksF m p.out p.syn p.fin p.rst).peers, a ≤ 3000
              rw [e1]
              exact a1
            · show 1 ≤ (marksF m p.out p.syn p.fin p.rst).peers.length
              rw [e1]
              exact a2
            · show (marksF m p.out p.syn p.fin p.rst).proto = 2 ↔ 0 < (marksF m p.out p.syn p.fin p.rst).st
              have e2 := (marksF_same m p.out p.syn p.fin p.rst).1
              have e3 := marksF_st (a3.1 (hk.1.trans hp)) p.out p.syn p.fin p.rst
              exact ⟨fun _ => e3, fun _ => e2.trans (hk.1.trans hp)⟩
          · exact h.pm y hy
        · refine ⟨h.outer, h.low, h.high, fun y hy => ?_⟩
          have hy' : y ∈ T.maps := by rw [if_neg hp] at hy; exact hy
          exact h.pm y hy'
      · exact h
  · exact h

theorem useM_proto (m : Mp) (p : Pk) : (useM m p).proto = m.proto := by
  unfold useM
  split
  · exact (marksF_same _ _ _ _ _).1
  · rfl

theorem useM_pM {m : Mp} {p : Pk} (h1 : ∀ a ∈ m.peers, a ≤ 3000) (h2 : m.proto = 2 ↔ 0 < m.st) (hp : m.proto = p.proto) (hd : p.da ≤ 3000) : pM (useM m p) := by
  refine ⟨?_, ?_, ?_⟩
  · rw [useM_peers]
    intro a ha
    rcases useF_mem ha with rfl | ha
    · exact hd
    · exact h1 a ha
  · rw [useM_peers]
    exact List.length_pos_of_mem (useF_has _ _)
  · rw [useM_proto]
    unfold useM
    split
    · rename_i e
      exact ⟨fun _ => marksF_st (m := { m with peers := useF m.peers p.da, idle := 0 }) (h2.1 (hp.trans e)) _ _ _ _, fun _ => hp.trans e⟩
    · exact h2

theorem outW_inv {t s : Int} {T : Tn} {m : Mp} {p : Pk} (ho : T.outer = 1000 * t) (hl : T.low = 100) (hh : T.high = 99 + s) (hall : ∀ y ∈ T.maps, isP m.proto m.port y = false → pM y) (h1 : ∀ a ∈ m.peers, a ≤ 3000) (h2 : m.proto = 2 ↔ 0 < m.st) (hp : m.proto = p.proto) (hd : p.da ≤ 3000) : InvT t s (outW T m p).1 := by
  have key : InvT t s { T with maps := setM T.maps (useM m p) } := by
    refine ⟨ho, hl, hh, fun y hy => ?_⟩
    rcases setM_mem hy with rfl | ⟨hy, hn⟩
    · exact useM_pM h1 h2 hp hd
    · have hs := useM_same m p
      rw [hs.1, hs.2.2.2] at hn
      exact hall y hy hn
  unfold outW
  split
  · exact key.inF _
  · exact key

theorem outF_inv {t s : Int} {T : Tn} (h : InvT t s T) {p : Pk} (hd : p.da ≤ 3000) : InvT t s (outF T p).1 := by
  unfold outF
  split
  · rename_i m hm
    have hk := isI_iff.1 (List.find?_some hm)
    obtain ⟨a1, a2, a3⟩ := h.pm m (List.mem_of_find?_eq_some hm)
    exact outW_inv h.outer h.low h.high (fun y hy _ => h.pm y hy) a1 a3 hk.1 hd
  · split
    · exact h
    · split
      · exact h
      · rename_i q hq
        refine outW_inv h.outer h.low h.high (fun y hy hn => ?_) (by simp [newM]) ?_ rfl hd
        · rcases List.mem_append.1 hy with hy | hy
          · exact h.pm y hy
          · have : y = newM p.proto p.sa p.sp q := by simpa using hy
            subst this
            rw [isP_iff.2 ⟨rfl, rfl⟩] at hn
            cases hn
        · show p.proto = 2 ↔ 0 < (if p.proto = 2 then (1 : Int) else 0)
          split
          · rename_i e
            exact ⟨fun _ => by decide, fun _ => e⟩
          · rename_i e
            exact ⟨fun x => absurd x e, fun x => absurd x (by decide)⟩

theorem passF_inv {t s : Int} {T : Tn} (h : InvT t s T) {p : Pk} (hd : p.out = true → p.da ≤ 3000) : InvT t s (passF T p).1 := by
  unfold passF
  split
  · split <;> exact h
  · split
    · rename_i e
      exact outF_inv h (hd e)
    · exact h.inF p

theorem tickF_inv {t s : Int} {T : Tn} (h : InvT t s T) (n : Int) : InvT t s (tickF n T) := by
  refine ⟨h.outer, h.low, h.high, fun y hy => ?_⟩
  obtain ⟨m, hm, e⟩ := List.mem_filterMap.1 hy
  unfold tickM at e
  split at e
  · cases e
    exact h.pm m hm
  · cases e

/-- .. of a box -/
structure InvB (s : Int) (B : List (Int × Tn)) : Prop where
  tags : B.map (·.1) = [1, 2, 3]
  ten : ∀ x ∈ B, InvT x.1 s x.2

theorem InvB.start (s : Int) : InvB s (boxB (99 + s)) := by
  refine ⟨rfl, fun x hx => ?_⟩
  rcases List.mem_cons.1 hx with rfl | hx
  · exact ⟨rfl, rfl, rfl, fun m hm => by cases hm⟩
  · rcases List.mem_cons.1 hx with rfl | hx
    · exact ⟨rfl, rfl, rfl, fun m hm => by cases hm⟩
    · rcases List.mem_cons.1 hx with rfl | hx
      · exact ⟨rfl, rfl, rfl, fun m hm => by cases hm⟩
      · cases hx

theorem isT_iff {t : Int} {x : Int × Tn} : isT t x = true ↔ x.1 = t := by simp [isT]

theorem InvB.find {s : Int} {B : List (Int × Tn)} (h : InvB s B) {t : Int} (h1 : 1 ≤ t) (h3 : t ≤ 3) : ∃ T, B.find? (isT t) = some (t, T) ∧ InvT t s T := by
  have hm : t ∈ B.map (·.1) := by
    rw [h.tags]
    have : t = 1 ∨ t = 2 ∨ t = 3 := by omega
    rcases this with rfl | rfl | rfl <;> simp
  obtain ⟨x, hx, he⟩ := List.mem_map.1 hm
  cases hf : B.find? (isT t) with
  | none => exact absurd (isT_iff.2 he) (by simpa using List.find?_eq_none.1 hf x hx)
  | some y =>
    have hy := isT_iff.1 (List.find?_some hf)
    have hi := h.ten y (List.mem_of_find?_eq_some hf)
    obtain ⟨a, T⟩ := y
    cases hy
    exact ⟨T, rfl, hi⟩

theorem putT_tags (B : List (Int × Tn)) (t : Int) (T : Tn) : (putT B t T).map (·.1) = B.map (·.1) := by
  unfold putT
  rw [List.map_map]
  refine List.map_congr_left (fun x _ => ?_)
  show (if isT t x then (x.1, T) else x).1 = x.1
  split <;> rfl

theorem InvB.put {s : Int} {B : List (Int × Tn)} (h : InvB s B) {t : Int} {T : Tn} (hT : InvT t s T) : InvB s (putT B t T) := by
  refine ⟨(putT_tags B t T).trans h.tags, fun x hx => ?_⟩
  obtain ⟨y, hy, rfl⟩ := List.mem_map.1 hx
  by_cases e : isT t y = true
  · rw [if_pos e]
    have := isT_iff.1 e
    rw [this]
    exact hT
  · rw [if_neg e]
    exact h.ten y hy

theorem passB_eq {B : List (Int × Tn)} {p : Pk} {T : Tn} (hg : goodB p = true) (hf : B.find? (isT p.tag) = some (p.tag, T)) : passB B p = (putT B p.tag (passF T p).1, (passF T p).2.1, (passF T p).2.2, 0) := by
  unfold passB
  rw [if_pos hg, hf]

theorem InvB.pass {s : Int} {B : List (Int × Tn)} (h : InvB s B) {p : Pk} (hg : goodB p = true) (ht : 1 ≤ p.tag ∧ p.tag ≤ 3) (hd : p.out = true → p.da ≤ 3000) : InvB s (passB B p).1 := by
  obtain ⟨T, hf, hT⟩ := h.find ht.1 ht.2
  rw [passB_eq hg hf]
  exact h.put (passF_inv hT hd)

theorem InvB.tick {s : Int} {B : List (Int × Tn)} (h : InvB s B) (n : Int) : InvB s (tickB n B) := by
  unfold tickB
  refine ⟨by rw [List.map_map]; exact h.tags, fun x hx => ?_⟩
  obtain ⟨y, hy, rfl⟩ := List.mem_map.1 hx
  exact tickF_inv (h.ten y hy) n

theorem find_putT {t : Int} {T T' : Tn} : ∀ {B : List (Int × Tn)}, B.find? (isT t) = some (t, T) → (putT B t T').find? (isT t) = some (t, T')
  | [], h => by cases h
  | x :: r, h => by
    unfold putT
    rw [List.map_cons]
    by_cases e : isT t x = true
    · have hx := isT_iff.1 e
      rw [if_pos e, List.find?_cons_of_pos (by simpa [isT] using hx), hx]
    · rw [List.find?_cons_of_neg e] at h
      rw [if_neg e, List.find?_cons_of_neg e]
      exact find_putT h

theorem find_putT_ne {t u : Int} {T : Tn} (hne : u ≠ t) : ∀ B : List (Int × Tn), (putT B t T).find? (isT u) = B.find? (isT u)
  | [] => rfl
  | x :: r => by
    have ih := find_putT_ne (T := T) hne r
    unfold putT at ih ⊢
    rw [List.map_cons, List.find?_cons, List.find?_cons, ih]
    by_cases e : isT t x = true
    · have hx := isT_iff.1 e
      rw [if_pos e]
      have e1 : isT u (x.1, T) = false := by simpa [isT, hx] using fun h : t = u => hne h.symm
      have e2 : isT u x = false := by simpa [isT, hx] using fun h : t = u => hne h.symm
      rw [e1, e2]
    · rw [if_neg e]

theorem find_tickB {n t : Int} {T : Tn} : ∀ {B : List (Int × Tn)}, B.find? (isT t) = some (t, T) → (tickB n B).find? (isT t) = some (t, tickF n T)
  | [], h => by cases h
  | x :: r, h => by
    unfold tickB
    rw [List.map_cons]
    by_cases e : isT t x = true
    · have hx := isT_iff.1 e
      rw [List.find?_cons_of_pos e] at h
      cases h
      rw [List.find?_cons_of_pos (by simp [isT])]
    · rw [List.find?_cons_of_neg e] at h
      rw [List.find?_cons_of_neg (by simpa [isT] using e)]
      exact find_tickB h

theorem BoxR.good {w : World} {F : Nat → Prop} {b : Nat} {B : List (Int × Tn)} (h : BoxR w F b B) : ∀ x ∈ B, GoodT x.2 := by
  obtain ⟨r, C, h1, rfl, _⟩ := h
  intro x hx
  obtain ⟨c, hc, rfl⟩ := List.mem_map.1 hx
  exact (h1.ten c hc).1.good

end Go.Proofs.Ytgpplekabohneaa
