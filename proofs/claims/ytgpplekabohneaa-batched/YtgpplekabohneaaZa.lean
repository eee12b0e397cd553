/- 'packet'. -/
import Derived.Test.YtgpplekabohneaaPq
namespace Go.Proofs.Ytgpplekabohneaa
open Go.RowKit

def R64 (x : Int) : Prop := -9223372036854775808 ≤ x ∧ x ≤ 9223372036854775807

theorem R64_wrap (x : Int) : Hid (R64 (IntKind.i64.wrap x)) := by
  refine hide ?_
  unfold R64
  rw [IntKind.wrap_i64]
  omega

theorem R64_wrap64 (x : Int) : Hid (R64 (wrap64 x)) := by
  refine hide ?_
  unfold R64 wrap64
  omega

theorem pick_in (c : Int) (n : Nat) (w : World) (hc : Hid (R64 c)) (hn : 0 < n) (hn' : n ≤ 100000) :
    Calls Try.prog 14 #[.int .i64 c, .int .i64 n] w fun e w' => ∃ k : Int, (0 ≤ k ∧ k < n) ∧ e = .returned (.int .i64 k) ∧ w' = w := by
  refine (pick_eq c n w (unhide hc).1 (unhide hc).2 hn hn').mono ?_
  rintro e w' ⟨rfl, rfl⟩
  have := pk_lt c n hn
  exact ⟨pk c n, by omega, rfl, rfl⟩

abbrev evO (k t a b c : Int) : Obj := .cells #[.int .i64 k, .int .i64 t, .int .i64 a, .int .i64 b, .int .i64 c] 30
abbrev pkO (p : Pk) : Obj := .cells (pkC p) 38
abbrev enO (a p : Int) : Obj := .cells #[.int .i64 a, .int .i64 p] 34
def pk3 (X Y : Int) (o : Bool) : Pk := ⟨X, Y, o, 0, 0, 0, 0, false, false, false, false, 0, 0, 0, 0⟩

/-- what 'packet' gives: a packet of a tenant 1 to 3, to no address beyond 3000 -/
structure PktOk (p : Pk) : Prop where
  tag : 1 ≤ p.tag ∧ p.tag ≤ 3
  good : goodB p = true
  da : p.da ≤ 3000

theorem pktOk (X Y : Int) (o : Bool) (sa sp da dp : Int) (sy fi rs er : Bool) (qa qp ra rp : Int) (hX : 1 ≤ X ∧ X ≤ 3) (hY : 1 ≤ Y ∧ Y ≤ 3) (h1 : 0 ≤ sa ∧ sa ≤ 3000) (h2 : 0 ≤ sp ∧ sp ≤ 104) (h3 : 0 ≤ da ∧ da ≤ 3000) (h4 : 0 ≤ dp ∧ dp ≤ 104)
    (h5 : er = true ∧ (0 ≤ qa ∧ qa ≤ 3000) ∧ (0 ≤ qp ∧ qp ≤ 104) ∧ (0 ≤ ra ∧ ra ≤ 3000) ∧ (0 ≤ rp ∧ rp ≤ 104) ∨ er = false ∧ qa = 0 ∧ qp = 0 ∧ ra = 0 ∧ rp = 0) (h6 : (Y = 2 ∧ er = false) ∨ (sy = false ∧ fi = false ∧ rs = false)) :
    PktOk ⟨X, Y, o, sa, sp, da, dp, sy, fi, rs, er, qa, qp, ra, rp⟩ := by
  refine ⟨hX, ?_, h3.2⟩
  have e : ∀ a p : Int, (0 ≤ a ∧ a ≤ 3000) → (0 ≤ p ∧ p ≤ 104) → endB a p = true := fun a p h h' => by unfold endB; simp only [decide_eq_true_eq]; omega
  unfold goodB quoteB markB
  dsimp only
  rw [e sa sp h1 h2, e da dp h3 h4]
  have hd : decide (1 ≤ Y ∧ Y ≤ 3) = true := by simp [hY]
  rw [hd]
  rcases h5 with ⟨rfl, a1, a2, a3, a4⟩ | ⟨rfl, rfl, rfl, rfl, rfl⟩
  · rw [e qa qp a1 a2, e ra rp a3 a4]
    rcases h6 with ⟨_, h⟩ | ⟨rfl, rfl, rfl⟩
    · cases h
    · simp
  · rcases h6 with ⟨rfl, _⟩ | ⟨rfl, rfl, rfl⟩
    · simp
    · simp

/-- the world on the way: the event's block, the answer's, and the packet's -/
structure PW (w wx : World) (k t a b c : Int) (pb : Nat) (cs : Array Value) : Prop where
  below : Below w.heap.size w wx
  ev : wx.heap[w.heap.size]? = some (evO k t a b c)
  rs : wx.heap[w.heap.size + 1]? = some (pkO pk0)
  pk : wx.heap[pb]? = some (.cells cs 38)
  lt : w.heap.size + 1 < pb

theorem lt_some {w : World} {k : Nat} {o : Obj} (h : w.heap[k]? = some o) : k < w.heap.size := (Array.getElem?_eq_some_iff.1 h).1

theorem keepA {w : World} {k : Nat} {o : Obj} (h : w.heap[k]? = some o) (o' : Obj) : (w.alloc o').drew.heap[k]? = some o :=
  (Below.heap_alloc w o' k (lt_some h)).trans h

theorem newA (w : World) (o' : Obj) (k : Nat) (h : k = w.heap.size) : (w.alloc o').drew.heap[k]? = some o' := blkN w o' k h

theorem keepS {w : World} {k : Nat} {o : Obj} (h : w.heap[k]? = some o) (b i : Nat) (v : Value) (hne : k ≠ b) : (w.setCell ⟨b, i, none⟩ v).heap[k]? = some o :=
  (Below.heap_setCell w ⟨b, i, none⟩ v k hne).trans h

theorem PW.allocD {w wx : World} {k t a b c : Int} {pb : Nat} {p : Array Value} (h : PW w wx k t a b c pb p) (o : Obj) : PW w (wx.alloc o).drew k t a b c pb p :=
  ⟨(h.below.alloc h.below.size o).drew, keepA h.ev o, keepA h.rs o, keepA h.pk o, h.lt⟩

theorem PW.other {w wx : World} {k t a b c : Int} {pb : Nat} {p : Array Value} (h : PW w wx k t a b c pb p) (g i : Nat) (v : Value) (hg : pb < g) : PW w (wx.setCell ⟨g, i, none⟩ v) k t a b c pb p :=
  have := h.lt
  ⟨h.below.setCell (by show w.heap.size ≤ g; omega) v, keepS h.ev _ _ _ (by omega), keepS h.rs _ _ _ (by omega), keepS h.pk _ _ _ (by omega), h.lt⟩

theorem PW.put {w wx : World} {k t a b c : Int} {pb : Nat} {p : Array Value} (h : PW w wx k t a b c pb p) (i : Nat) (v : Value) : PW w (wx.setCell ⟨pb, i, none⟩ v) k t a b c pb (p.setIfInBounds i v) :=
  have := h.lt
  ⟨h.below.setCell (by show w.heap.size ≤ pb; omega) v, keepS h.ev _ _ _ (by omega), keepS h.rs _ _ _ (by omega), setB h.pk i v, h.lt⟩

theorem PW.cells {w wx : World} {k t a b c : Int} {pb : Nat} {p : Array Value} (h : PW w wx k t a b c pb p) : wx.cell? ⟨w.heap.size, 0, none⟩ = some (.int .i64 k) ∧ wx.cell? ⟨w.heap.size, 1, none⟩ = some (.int .i64 t) ∧ wx.cell? ⟨w.heap.size, 2, none⟩ = some (.int .i64 a) ∧ wx.cell? ⟨w.heap.size, 3, none⟩ = some (.int .i64 b) ∧ wx.cell? ⟨w.heap.size, 4, none⟩ = some (.int .i64 c) ∧ w.heap.size < wx.heap.size := by
  have := h.ev
  refine ⟨?_, ?_, ?_, ?_, ?_, lt_some h.ev⟩ <;> simp [World.cell?, this]

theorem en_cells {w : World} {b : Nat} {a p : Int} (h : w.heap[b]? = some (enO a p)) : w.cell? ⟨b, 0, none⟩ = some (.int .i64 a) ∧ w.cell? ⟨b, 1, none⟩ = some (.int .i64 p) := by
  constructor <;> simp [World.cell?, h]

theorem froz {w : World} {b : Nat} {cs : Array Value} {t : TypeId} (h : w.heap[b]? = some (.cells cs t)) : ∀ o, w.frozen? ⟨b, o, none⟩ = false := by
  intro o
  simp [World.frozen?, h]

/-- the fifteen cells of a packet -/
def PCells (w : World) (b : Nat) (p : Pk) : Prop :=
  w.cell? ⟨b, 0, none⟩ = some (.int .i64 p.tag) ∧ w.cell? ⟨b, 1, none⟩ = some (.int .i64 p.proto) ∧ w.cell? ⟨b, 2, none⟩ = some (.bool p.out) ∧ w.cell? ⟨b, 3, none⟩ = some (.int .i64 p.sa) ∧ w.cell? ⟨b, 4, none⟩ = some (.int .i64 p.sp) ∧ w.cell? ⟨b, 5, none⟩ = some (.int .i64 p.da) ∧ w.cell? ⟨b, 6, none⟩ = some (.int .i64 p.dp) ∧ w.cell? ⟨b, 7, none⟩ = some (.bool p.syn) ∧ w.cell? ⟨b, 8, none⟩ = some (.bool p.fin) ∧ w.cell? ⟨b, 9, none⟩ = some (.bool p.rst) ∧ w.cell? ⟨b, 10, none⟩ = some (.bool p.err) ∧ w.cell? ⟨b, 11, none⟩ = some (.int .i64 p.qsa) ∧ w.cell? ⟨b, 12, none⟩ = some (.int .i64 p.qsp) ∧ w.cell? ⟨b, 13, none⟩ = some (.int .i64 p.qda) ∧ w.cell? ⟨b, 14, none⟩ = some (.int .i64 p.qdp)

theorem pcells {w : World} {b : Nat} {p : Pk} (h : w.heap[b]? = some (pkO p)) : PCells w b p := by
  unfold PCells
  refine ⟨?_, ?_, ?_, ?_, ?_, ?_, ?_, ?_, ?_, ?_, ?_, ?_, ?_, ?_, ?_⟩ <;> simp [World.cell?, h, pkC]

/-- beside it: the inner end's block, and the far one's -/
structure PF (w wx : World) (k t a b c : Int) (pb ib fb : Nat) (cs : Array Value) (ia ip fa fp : Int) : Prop where
  pw : PW w wx k t a b c pb cs
  bi : 0 ≤ ia ∧ ia ≤ 3000 ∧ 0 ≤ ip ∧ ip ≤ 104
  bf : 0 ≤ fa ∧ fa ≤ 3000 ∧ 0 ≤ fp ∧ fp ≤ 104
  hi : wx.heap[ib]? = some (enO ia ip)
  hf : wx.heap[fb]? = some (enO fa fp)
  l1 : pb < ib
  l2 : ib < fb

theorem PF.put {w wx : World} {k t a b c : Int} {pb ib fb : Nat} {p : Array Value} {ia ip fa fp : Int} (h : PF w wx k t a b c pb ib fb p ia ip fa fp) (i : Nat) (v : Value) : PF w (wx.setCell ⟨pb, i, none⟩ v) k t a b c pb ib fb (p.setIfInBounds i v) ia ip fa fp :=
  have := h.l1
  have := h.l2
  ⟨h.pw.put i v, h.bi, h.bf, keepS h.hi _ _ _ (by omega), keepS h.hf _ _ _ (by omega), h.l1, h.l2⟩

theorem PF.allocD {w wx : World} {k t a b c : Int} {pb ib fb : Nat} {p : Array Value} {ia ip fa fp : Int} (h : PF w wx k t a b c pb ib fb p ia ip fa fp) (o : Obj) : PF w (wx.alloc o).drew k t a b c pb ib fb p ia ip fa fp :=
  ⟨h.pw.allocD o, h.bi, h.bf, keepA h.hi o, keepA h.hf o, h.l1, h.l2⟩

theorem PF.far {w wx : World} {k t a b c : Int} {pb ib fb : Nat} {p : Array Value} {ia ip fa fp : Int} (h : PF w wx k t a b c pb ib fb p ia ip fa fp) (fa' fp' : Int) (hb : 0 ≤ fa' ∧ fa' ≤ 3000 ∧ 0 ≤ fp' ∧ fp' ≤ 104) : PF w ((wx.setCell ⟨fb, 0, none⟩ (.int .i64 fa')).setCell ⟨fb, 1, none⟩ (.int .i64 fp')) k t a b c pb ib fb p ia ip fa' fp' :=
  have := h.l1
  have := h.l2
  ⟨(h.pw.other fb _ _ (by omega)).other fb _ _ (by omega), h.bi, hb, keepS (keepS h.hi _ _ _ (by omega)) _ _ _ (by omega), setB (setB h.hf 0 _) 1 _, h.l1, h.l2⟩

/-- and the outer end's -/
structure PG (w wx : World) (k t a b c : Int) (pb ib fb ob : Nat) (cs : Array Value) (ia ip fa fp oa op : Int) : Prop where
  pf : PF w wx k t a b c pb ib fb cs ia ip fa fp
  bo : 0 ≤ oa ∧ oa ≤ 3000 ∧ 0 ≤ op ∧ op ≤ 104
  ho : wx.heap[ob]? = some (enO oa op)
  l3 : fb < ob

theorem PG.put {w wx : World} {k t a b c : Int} {pb ib fb ob : Nat} {p : Array Value} {ia ip fa fp oa op : Int} (h : PG w wx k t a b c pb ib fb ob p ia ip fa fp oa op) (i : Nat) (v : Value) : PG w (wx.setCell ⟨pb, i, none⟩ v) k t a b c pb ib fb ob (p.setIfInBounds i v) ia ip fa fp oa op :=
  have := h.pf.l1
  have := h.pf.l2
  have := h.l3
  ⟨h.pf.put i v, h.bo, keepS h.ho _ _ _ (by omega), h.l3⟩

theorem PG.eqv {w wx : World} {k t a b c : Int} {pb ib fb ob : Nat} {p q : Array Value} {ia ip fa fp oa op : Int} (h : PG w wx k t a b c pb ib fb ob p ia ip fa fp oa op) (e : p = q) : PG w wx k t a b c pb ib fb ob q ia ip fa fp oa op := e ▸ h

theorem PG.ends {w wx : World} {k t a b c : Int} {pb ib fb ob : Nat} {p : Pk} {ia ip fa fp oa op : Int} (h : PG w wx k t a b c pb ib fb ob (pkC p) ia ip fa fp oa op) (u1 u2 u3 u4 : Int) :
    PG w ((((wx.setCell ⟨pb, 3, none⟩ (.int .i64 u1)).setCell ⟨pb, 4, none⟩ (.int .i64 u2)).setCell ⟨pb, 5, none⟩ (.int .i64 u3)).setCell ⟨pb, 6, none⟩ (.int .i64 u4)) k t a b c pb ib fb ob (pkC { p with sa := u1, sp := u2, da := u3, dp := u4 }) ia ip fa fp oa op :=
  (((((((h.put 3 (.int .i64 u1)).eqv (q := pkC { p with sa := u1 }) rfl).put 4 (.int .i64 u2)).eqv (q := pkC { p with sa := u1, sp := u2 }) rfl).put 5 (.int .i64 u3)).eqv (q := pkC { p with sa := u1, sp := u2, da := u3 }) rfl).put 6 (.int .i64 u4)).eqv rfl

theorem PG.quot {w wx : World} {k t a b c : Int} {pb ib fb ob : Nat} {p : Pk} {ia ip fa fp oa op : Int} (h : PG w wx k t a b c pb ib fb ob (pkC p) ia ip fa fp oa op) (u1 u2 u3 u4 : Int) :
    PG w ((((wx.setCell ⟨pb, 11, none⟩ (.int .i64 u1)).setCell ⟨pb, 12, none⟩ (.int .i64 u2)).setCell ⟨pb, 13, none⟩ (.int .i64 u3)).setCell ⟨pb, 14, none⟩ (.int .i64 u4)) k t a b c pb ib fb ob (pkC { p with qsa := u1, qsp := u2, qda := u3, qdp := u4 }) ia ip fa fp oa op :=
  (((((((h.put 11 (.int .i64 u1)).eqv (q := pkC { p with qsa := u1 }) rfl).put 12 (.int .i64 u2)).eqv (q := pkC { p with qsa := u1, qsp := u2 }) rfl).put 13 (.int .i64 u3)).eqv (q := pkC { p with qsa := u1, qsp := u2, qda := u3 }) rfl).put 14 (.int .i64 u4)).eqv rfl

theorem PG.erro {w wx : World} {k t a b c : Int} {pb ib fb ob : Nat} {p : Pk} {ia ip fa fp oa op : Int} (h : PG w wx k t a b c pb ib fb ob (pkC p) ia ip fa fp oa op) :
    PG w (wx.setCell ⟨pb, 10, none⟩ (.bool true)) k t a b c pb ib fb ob (pkC { p with err := true }) ia ip fa fp oa op := (h.put 10 (.bool true)).eqv rfl

theorem PG.marks {w wx : World} {k t a b c : Int} {pb ib fb ob : Nat} {p : Pk} {ia ip fa fp oa op : Int} (h : PG w wx k t a b c pb ib fb ob (pkC p) ia ip fa fp oa op) (u1 u2 u3 : Bool) :
    PG w (((wx.setCell ⟨pb, 7, none⟩ (.bool u1)).setCell ⟨pb, 8, none⟩ (.bool u2)).setCell ⟨pb, 9, none⟩ (.bool u3)) k t a b c pb ib fb ob (pkC { p with syn := u1, fin := u2, rst := u3 }) ia ip fa fp oa op :=
  (((((h.put 7 (.bool u1)).eqv (q := pkC { p with syn := u1 }) rfl).put 8 (.bool u2)).eqv (q := pkC { p with syn := u1, fin := u2 }) rfl).put 9 (.bool u3)).eqv rfl

end Go.Proofs.Ytgpplekabohneaa
