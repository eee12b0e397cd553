/- What the packets of 'Round' are answered; blocks beside a box. -/
import Derived.Test.YtkbgjbbniaflhaaRf
namespace Go.Proofs.Ytkbgjbbniaflhaa
open Go.RowKit

/-- a block that is none of the box's -/
def Out (F : Nat → Prop) (W : World) (k : Nat) (o : Obj) : Prop := W.heap[k]? = some o ∧ ¬ F k

theorem Out.pass {F : Nat → Prop} {W w' : World} {k : Nat} {o : Obj} (h : Out F W k o) (hF : Fr F W w') : Out (grow F W w') w' k o := by
  refine ⟨hF.some h.1 h.2, ?_⟩
  have := (Array.getElem?_eq_some_iff.1 h.1).1
  rintro (hk | hk)
  · exact h.2 hk
  · omega

theorem Out.new {F : Nat → Prop} {W w' : World} {k : Nat} {o : Obj} (h : Out F W k o) (hb : Below W.heap.size W w') : Out F w' k o :=
  ⟨(hb.block k (Array.getElem?_eq_some_iff.1 h.1).1).trans h.1, h.2⟩

theorem Out.alloc {F : Nat → Prop} {W : World} {b : Nat} {B : List (Int × Tn)} (h : BoxR W F b B) (o : Obj) : Out F (W.alloc o) W.heap.size o := by
  refine ⟨blkN _ _ _ rfl, fun hk => ?_⟩
  obtain ⟨r, C, _, _, _, h4⟩ := h
  have := h4 _ hk
  omega

theorem end_cells {w : World} {b : Nat} {a p : Int} (h : w.heap[b]? = some (.cells #[.int .i64 a, .int .i64 p] 34 (0, 0))) : w.cell? ⟨b, 0, none⟩ = some (.int .i64 a) ∧ w.cell? ⟨b, 1, none⟩ = some (.int .i64 p) := by
  constructor <;> simp [World.cell?, h]

def rpk (tag a p dp : Int) : Pk := ⟨tag, 1, true, a, p, 1000, dp, false, false, false, false, 0, 0, 0, 0⟩
def rm (a p port : Int) : Mp := ⟨1, a, p, port, [1000], 0, 0, false, false⟩
def rb (l1 l2 : List Mp) : List (Int × Tn) := [(1, ⟨1000, 100, 103, l1⟩), (2, ⟨2000, 100, 103, l2⟩), (3, ⟨3000, 100, 103, []⟩)]

theorem rpk_good (tag a p dp : Int) (h1 : 0 ≤ a) (h2 : a ≤ 800) (h3 : 0 ≤ p) (h4 : p ≤ 65535) (h5 : 0 ≤ dp) (h6 : dp ≤ 65535) : goodB (rpk tag a p dp) = true := by
  have e1 : endB a p = true := by unfold endB; simp only [decide_eq_true_eq]; omega
  have e2 : endB 1000 dp = true := by unfold endB; simp only [decide_eq_true_eq]; omega
  unfold goodB rpk
  dsimp only
  rw [e1, e2]
  rfl

theorem round1 (c p : Int) (h1 : 0 ≤ c) (h2 : c ≤ 800) (h3 : 0 ≤ p) (h4 : p ≤ 65535) : passB (rb [] []) (rpk 1 c p 103) = (rb [rm c p 100] [], pk0, 4, 0) := by
  have hg := rpk_good 1 c p 103 h1 h2 h3 h4 (by omega) (by omega)
  have e3 : passB (rb [] []) (rpk 1 c p 103) = if goodB (rpk 1 c p 103) then (putT (rb [] []) 1 (passF ⟨1000, 100, 103, []⟩ (rpk 1 c p 103)).1, (passF ⟨1000, 100, 103, []⟩ (rpk 1 c p 103)).2.1, (passF ⟨1000, 100, 103, []⟩ (rpk 1 c p 103)).2.2, 0) else (rb [] [], pk0, 0, 4) := rfl
  have e1 : passF ⟨1000, 100, 103, []⟩ (rpk 1 c p 103) = (⟨1000, 100, 103, [rm c p 100]⟩, pk0, 4) := rfl
  rw [e3, if_pos hg, e1]
  rfl

theorem round2 (a c p : Int) (h1 : 0 ≤ a) (h2 : a ≤ 800) (h3 : 0 ≤ p) (h4 : p ≤ 65535) (hne : c ≠ a) : passB (rb [rm c p 100] []) (rpk 1 a p 100) = (rb [rm c p 100, rm a p 101] [], ⟨1, 1, false, 1000, 101, c, p, false, false, false, false, 0, 0, 0, 0⟩, 0, 0) := by
  have hg := rpk_good 1 a p 100 h1 h2 h3 h4 (by omega) (by omega)
  have e3 : passB (rb [rm c p 100] []) (rpk 1 a p 100) = if goodB (rpk 1 a p 100) then (putT (rb [rm c p 100] []) 1 (passF ⟨1000, 100, 103, [rm c p 100]⟩ (rpk 1 a p 100)).1, (passF ⟨1000, 100, 103, [rm c p 100]⟩ (rpk 1 a p 100)).2.1, (passF ⟨1000, 100, 103, [rm c p 100]⟩ (rpk 1 a p 100)).2.2, 0) else (rb [rm c p 100] [], pk0, 0, 4) := rfl
  have e2 : passF ⟨1000, 100, 103, [rm c p 100]⟩ (rpk 1 a p 100) = outF ⟨1000, 100, 103, [rm c p 100]⟩ (rpk 1 a p 100) := rfl
  have hf : [rm c p 100].find? (isI (rpk 1 a p 100).proto (rpk 1 a p 100).sa (rpk 1 a p 100).sp) = none := by
    simp [isI, rm, rpk, hne]
  have e1 : outF ⟨1000, 100, 103, [rm c p 100]⟩ (rpk 1 a p 100) = (⟨1000, 100, 103, [rm c p 100, rm a p 101]⟩, ⟨1, 1, false, 1000, 101, c, p, false, false, false, false, 0, 0, 0, 0⟩, 0) := by
    unfold outF
    rw [hf]
    rfl
  rw [e3, if_pos hg, e2, e1]
  rfl

theorem round3 (a c p : Int) (h1 : 0 ≤ c) (h2 : c ≤ 800) (h3 : 0 ≤ p) (h4 : p ≤ 65535) : passB (rb [rm c p 100, rm a p 101] []) (rpk 1 c p 101) = (rb [rm c p 100, rm a p 101] [], ⟨1, 1, false, 1000, 100, a, p, false, false, false, false, 0, 0, 0, 0⟩, 0, 0) := by
  have hg := rpk_good 1 c p 101 h1 h2 h3 h4 (by omega) (by omega)
  have e3 : passB (rb [rm c p 100, rm a p 101] []) (rpk 1 c p 101) = if goodB (rpk 1 c p 101) then (putT (rb [rm c p 100, rm a p 101] []) 1 (passF ⟨1000, 100, 103, [rm c p 100, rm a p 101]⟩ (rpk 1 c p 101)).1, (passF ⟨1000, 100, 103, [rm c p 100, rm a p 101]⟩ (rpk 1 c p 101)).2.1, (passF ⟨1000, 100, 103, [rm c p 100, rm a p 101]⟩ (rpk 1 c p 101)).2.2, 0) else (rb [rm c p 100, rm a p 101] [], pk0, 0, 4) := rfl
  have e2 : passF ⟨1000, 100, 103, [rm c p 100, rm a p 101]⟩ (rpk 1 c p 101) = outF ⟨1000, 100, 103, [rm c p 100, rm a p 101]⟩ (rpk 1 c p 101) := rfl
  have hf : [rm c p 100, rm a p 101].find? (isI (rpk 1 c p 101).proto (rpk 1 c p 101).sa (rpk 1 c p 101).sp) = some (rm c p 100) := by
    simp [isI, rm, rpk]
  have e1 : outF ⟨1000, 100, 103, [rm c p 100, rm a p 101]⟩ (rpk 1 c p 101) = (⟨1000, 100, 103, [rm c p 100, rm a p 101]⟩, ⟨1, 1, false, 1000, 100, a, p, false, false, false, false, 0, 0, 0, 0⟩, 0) := by
    unfold outF
    rw [hf]
    rfl
  rw [e3, if_pos hg, e2, e1]
  rfl

theorem round4 (a p : Int) (l : List Mp) (h1 : 0 ≤ a) (h2 : a ≤ 800) (h3 : 0 ≤ p) (h4 : p ≤ 65535) : ∃ B, passB (rb l []) (rpk 2 a p 100) = (B, ⟨2, 1, true, 2000, 100, 1000, 100, false, false, false, false, 0, 0, 0, 0⟩, 0, 0) := by
  have hg := rpk_good 2 a p 100 h1 h2 h3 h4 (by omega) (by omega)
  have e3 : passB (rb l []) (rpk 2 a p 100) = if goodB (rpk 2 a p 100) then (putT (rb l []) 2 (passF ⟨2000, 100, 103, []⟩ (rpk 2 a p 100)).1, (passF ⟨2000, 100, 103, []⟩ (rpk 2 a p 100)).2.1, (passF ⟨2000, 100, 103, []⟩ (rpk 2 a p 100)).2.2, 0) else (rb l [], pk0, 0, 4) := rfl
  have e1 : passF ⟨2000, 100, 103, []⟩ (rpk 2 a p 100) = (⟨2000, 100, 103, [rm a p 100]⟩, ⟨2, 1, true, 2000, 100, 1000, 100, false, false, false, false, 0, 0, 0, 0⟩, 0) := rfl
  rw [e3, if_pos hg, e1]
  exact ⟨_, rfl⟩

end Go.Proofs.Ytkbgjbbniaflhaa
