/- 'box', 'Round': what their packets are answered; their boxes. -/
import Derived.Test.YtgpplekabohneaaRw
import Derived.Test.YtgpplekabohneaaWa
namespace Go.Proofs.Ytgpplekabohneaa
section
open Go.RowKit

def dgram (tag addr port to : Int) : Pk := ⟨tag, 1, true, addr, port, to, 53, false, false, false, false, 0, 0, 0, 0⟩
def answerF (p : Pk) : Pk := ⟨p.tag, p.proto, false, p.da, p.dp, p.sa, p.sp, false, false, false, false, 0, 0, 0, 0⟩

set_option maxHeartbeats 1000000 in
theorem datagram_any (tag addr port to : Int) (w : World) :
    Calls Try.prog 22 #[.int .i64 tag, .int .i64 addr, .int .i64 port, .int .i64 to] w fun e w' => e = .returned (.agg (pkC (dgram tag addr port to))) ∧ Below w.heap.size w w' := by
  unfold pkC dgram
  dsimp only
  go_enter Try.func22, Try.ntmps22
  go_wp2
  exact bodyPost_ret (v := .agg #[.int .i64 tag, .int .i64 1, .bool true, .int .i64 addr, .int .i64 port, .int .i64 to, .int .i64 53, .bool false, .bool false, .bool false, .bool false, .int .i64 0, .int .i64 0, .int .i64 0, .int .i64 0]) (by simp [results, Try.results22, go_sem]) rfl ⟨rfl, (Below.refl _ _).alloc (Nat.le_refl _) _⟩

set_option maxHeartbeats 1000000 in
theorem answer_any (p : Pk) (w : World) :
    Calls Try.prog 21 #[.agg (pkC p)] w fun e w' => e = .returned (.agg (pkC (answerF p))) ∧ Below w.heap.size w w' := by
  obtain ⟨tag, proto, out, sa, sp, da, dp, syn, fin, rst, err, qsa, qsp, qda, qdp⟩ := p
  unfold pkC answerF
  dsimp only
  go_enter Try.func21, Try.ntmps21
  go_wp2
  exact bodyPost_ret (v := .agg #[.int .i64 tag, .int .i64 proto, .bool false, .int .i64 da, .int .i64 dp, .int .i64 sa, .int .i64 sp, .bool false, .bool false, .bool false, .bool false, .int .i64 0, .int .i64 0, .int .i64 0, .int .i64 0]) (by simp [results, Try.results21, go_sem]) rfl ⟨rfl, ((Below.refl _ _).alloc (Nat.le_refl _) _).alloc (by simp) _⟩

def boxTs (high : Int) : List Ten := [⟨1, 1000, 100, high⟩, ⟨2, 2000, 100, high⟩, ⟨3, 3000, 100, high⟩]
def boxB (high : Int) : List (Int × Tn) := [(1, ⟨1000, 100, high, []⟩), (2, ⟨2000, 100, high, []⟩), (3, ⟨3000, 100, high, []⟩)]

theorem boxTs_err (high : Int) (h1 : 100 ≤ high) (h2 : high ≤ 163) : newErr (boxTs high) = 0 := by
  have ok : ∀ t o : Int, 1 ≤ t → t ≤ 3 → 0 ≤ o → o ≤ 3000 → okT ⟨t, o, 100, high⟩ = true := fun t o a b c d => by
    unfold okT
    simp only [decide_eq_true_eq]
    omega
  simp [newErr, boxTs, errFrom, ok, twiceIn]

def q1P : Pk := ⟨1, 1, true, 1000, 100, 9, 53, false, false, false, false, 0, 0, 0, 0⟩
def box1 (high : Int) : List (Int × Tn) := [(1, ⟨1000, 100, high, [⟨1, 7, 70, 100, [9], 0, 0, false, false⟩]⟩), (2, ⟨2000, 100, high, []⟩), (3, ⟨3000, 100, high, []⟩)]

theorem freeF_first (p : Int) (high : Int) (h : 100 ≤ high) : freeF [] p (high + 1 - 100).toNat 100 = some 100 := by
  obtain ⟨k, hk⟩ : ∃ k, (high + 1 - 100).toNat = k + 1 := ⟨(high + 1 - 100).toNat - 1, by omega⟩
  rw [hk]
  rfl

theorem box_pass1 (high : Int) (h : 100 ≤ high) : passB (boxB high) (dgram 1 7 70 9) = (box1 high, q1P, 0, 0) := by
  have e := freeF_first 1 high h
  have e1 : outF ⟨1000, 100, high, []⟩ (dgram 1 7 70 9) = (⟨1000, 100, high, [⟨1, 7, 70, 100, [9], 0, 0, false, false⟩]⟩, q1P, 0) := by
    unfold outF
    simp only [dgram, List.find?_nil]
    rw [e]
    rfl
  have e2 : passF ⟨1000, 100, high, []⟩ (dgram 1 7 70 9) = outF ⟨1000, 100, high, []⟩ (dgram 1 7 70 9) := rfl
  have e3 : passB (boxB high) (dgram 1 7 70 9) = (putT (boxB high) 1 (passF ⟨1000, 100, high, []⟩ (dgram 1 7 70 9)).1, (passF ⟨1000, 100, high, []⟩ (dgram 1 7 70 9)).2.1, (passF ⟨1000, 100, high, []⟩ (dgram 1 7 70 9)).2.2, 0) := rfl
  rw [e3, e2, e1]
  rfl

theorem box_pass2 (high : Int) : passB (box1 high) (answerF q1P) = (box1 high, ⟨1, 1, false, 9, 53, 7, 70, false, false, false, false, 0, 0, 0, 0⟩, 0, 0) := rfl
end

section
open Go.RowKit

def tenC (t : Ten) : List Value := [.int .i64 t.tag, .int .i64 t.outer, .int .i64 t.low, .int .i64 t.high]
def tensC (l : List Ten) : List Value := l.flatMap tenC

theorem info73 : (Try.prog.info? 73).map (fun i => (i.zero, i.size, i.bytes)) = some (some (.agg #[.int .i64 0, .int .i64 0, .int .i64 0, .int .i64 0]), 4, 32) := by kernel_rfl

theorem tensC_at : ∀ (l : List Ten) (i : Nat) (h : i < l.length), (tensC l)[i * 4]? = some (.int .i64 l[i].tag) ∧ (tensC l)[i * 4 + 1]? = some (.int .i64 l[i].outer) ∧ (tensC l)[i * 4 + 2]? = some (.int .i64 l[i].low) ∧ (tensC l)[i * 4 + 3]? = some (.int .i64 l[i].high)
  | [], i, h => by simp at h
  | t :: r, 0, h => ⟨rfl, rfl, rfl, rfl⟩
  | t :: r, i + 1, h => by
    have hi : i < r.length := by simpa using h
    have := tensC_at r i hi
    have e : ∀ k, (tensC (t :: r))[(i + 1) * 4 + k]? = (tensC r)[i * 4 + k]? := fun k => by
      have e1 : (i + 1) * 4 + k = (i * 4 + k) + 4 := by omega
      rw [e1]
      rfl
    exact ⟨(e 0).trans this.1, (e 1).trans this.2.1, (e 2).trans this.2.2.1, (e 3).trans this.2.2.2⟩

theorem tenAt_of_row {w : World} {B g n cap : Nat} {ts : List Ten} (h : w.ownsRow B 73 4 (.slice (some ⟨g, 0, none⟩) n cap) n (tensC ts)) (hn : n = ts.length) : TenAt w g 0 ts := by
  intro i hi
  have c : ∀ k, k < 4 → w.cell? ⟨g, 0 + i * 4 + k, none⟩ = (tensC ts)[i * 4 + k]? := fun k hk => by
    rw [Nat.zero_add]
    exact h.cellAt _ (by omega)
  obtain ⟨h0, h1, h2, h3⟩ := tensC_at ts i hi
  exact ⟨(c 0 (by omega)).trans h0, (c 1 (by omega)).trans h1, (c 2 (by omega)).trans h2, (c 3 (by omega)).trans h3⟩

theorem boxTs_at (high : Int) (j : Nat) (hj : j < 3) : (boxTs high).take (j + 1) = (boxTs high).take j ++ [⟨j + 1, 1000 * (j + 1), 100, high⟩] := by
  match j, hj with
  | 0, _ => rfl
  | 1, _ => rfl
  | 2, _ => rfl

theorem newB_box (high : Int) : newB (boxTs high) = boxB high := rfl

/-- Pass, where its answer is known -/
theorem passC {W : World} {F : Nat → Prop} {b : Nat} {B B' : List (Int × Tn)} {p q : Pk} {v e : Int} (h : BoxR W F b B) (hp : passB B p = (B', q, v, e)) :
    Calls Try.prog 18 #[.pointer (some ⟨b, 0, none⟩), .agg (pkC p)] W fun en w' => en = .returned (.tuple #[.agg (pkC q), .int .i64 v, .int .i64 e]) ∧ BoxR w' (grow F W w') b B' ∧ Fr F W w' := by
  have := Pass_any h p
  rw [hp] at this
  exact this

theorem new_box (high : Int) (h1 : 100 ≤ high) (h2 : high ≤ 163) (g cap : Nat) (W : World) (hc : 3 ≤ cap) (hm : cap ≤ maxLen) (hg : g < W.heap.size) (hT : TenAt W g 0 (boxTs high)) :
    Calls Try.prog 26 #[.slice (some ⟨g, 0, none⟩) 3 cap] W fun e w' => ∃ p, e = .returned (.tuple #[.pointer (some ⟨p, 0, none⟩), .int .i64 0]) ∧ BoxR w' (fun k => W.heap.size ≤ k ∧ k < w'.heap.size) p (boxB high) ∧ Below W.heap.size W w' := by
  refine (new_some g 0 3 cap (boxTs high) W rfl hc hm hg hT).mono ?_
  rintro e w' ⟨hb, h | ⟨_, p, he, hB⟩⟩
  · exact absurd (boxTs_err high h1 h2) h.1
  · exact ⟨p, he, hB, hb⟩

set_option maxHeartbeats 8000000 in
set_option maxRecDepth 100000 in
theorem box_any (size : Int) (w : World) (h1 : 1 ≤ size) (h2 : size ≤ 64) :
    Calls Try.prog 15 #[.int .i64 size] w fun e w' => ∃ b, e = .returned (.pointer (some ⟨b, 0, none⟩)) ∧ BoxR w' (fun k => w.heap.size ≤ k ∧ k < w'.heap.size) b (boxB (99 + size)) ∧ Below w.heap.size w w' := by
  obtain ⟨i0, hi, hz0, hz1, hz2⟩ := info_parts info73
  have HI := hide (And.intro hi (And.intro hz0 (And.intro hz1 hz2)))
  clear hi hz0 hz1 hz2
  have e34 := eq34 9998
  go_enter Try.func15, Try.ntmps15
  go_wp2
  go_loopg [3, 4] 3 (fun k l t wr => ∃ j : Nat, j ≤ 3 ∧ k = 3 - j ∧ t = .int .i64 ((j : Int) + 1) ∧ wr.ownsRow w.heap.size 73 4 l j (tensC ((boxTs (99 + size)).take j)) ∧ Below w.heap.size w wr)
  case atStart => exact ⟨0, by omega, by omega, rfl, World.ownsRow_nil _ _ _ _, Below.refl _ _⟩
  case round =>
    obtain ⟨j, hj, hk, rfl, hown, hbl⟩ := hrel
    have HK := hide hk
    have HO := hide hown
    have HB := hide hbl
    have hsz := hbl.size
    clear hk hown hbl
    by_cases hlt : j < 3
    · go_wp2_with (at_builtin; refine wpList_append_x _ rfl _ _ 74 rfl w.heap.size 73 i0 _ 4 32 Try.underlying74 (unhide HI).1 (unhide HI).2.1 (unhide HI).2.2.1 (unhide HI).2.2.2 rfl (by decide) _ j (tensC ((boxTs (99 + size)).take j)) rfl ((unhide HO).alloc _) ⟨wr.heap.size, 0, none⟩ 1 1 [.int .i64 ((j : Int) + 1), .int .i64 (1000 * ((j : Int) + 1)), .int .i64 100, .int .i64 (99 + size)] rfl rfl (World.news_of_block (by exact blkN wr _ _ rfl)) (by simp [Value.oneCell']) (by omega) (by unfold maxLen; omega) (by omega) (by simp; omega) ?_; intro g2 cap2 w3 hO3 hG3; have HO3 := hide (And.intro hO3 hG3); clear hO3 hG3)
      go_roundg (3 - (j + 1))
      case measure => have := unhide HK; omega
      case rel =>
        obtain ⟨hO3, hG3⟩ := unhide HO3
        refine ⟨j + 1, by omega, rfl, by go_num, ?_, ?_⟩
        · rw [boxTs_at _ j hlt]
          simpa [tensC, tenC] using hO3
        · have hb' : Below w.heap.size w (wr.alloc (.cells #[.int .i64 ((j : Int) + 1), .int .i64 (1000 * ((j : Int) + 1)), .int .i64 100, .int .i64 (99 + size)] 73)) := (unhide HB).alloc hsz _
          rcases hG3 with ⟨h5, h6⟩ | ⟨h5, h6⟩
          · exact hb'.grown h6 (by simp; omega) (fun k hk => by cases hk; exact ((unhide HO).lt _ h5).1)
          · exact hb'.grown h6 (by simp; omega) (fun k hk => by cases hk)
    · have hj3 : j = 3 := by omega
      subst hj3
      clear hlt hj HK
      rcases (unhide HO).2 with ⟨_, h0⟩ | ⟨g, cap, cur, rfl, hgB, hgc, hcap, hcm, _, _⟩
      · cases h0
      · have hgl : g < wr.heap.size := (Array.getElem?_eq_some_iff.1 hgc).1
        have hTA : TenAt wr g 0 (boxTs (99 + size)) := tenAt_of_row (unhide HO) rfl
        have HN := fun (W : World) (hb : Below wr.heap.size wr W) => hide (new_box (99 + size) (by omega) (by omega) g cap W hcap hcm (Nat.lt_of_lt_of_le hgl hb.size) (hTA.below hb hgl))
        clear hTA hgc HO hcap hcm HI
        go_wp2_with fail
        refine (unhide (HN _ (Below.refl _ _))).mono ?_
        rintro e w1 ⟨p1, rfl, hB1, hb1⟩
        have hp1 : p1 < w1.heap.size := by
          obtain ⟨r, C, hC, _⟩ := hB1
          exact hC.cell.1
        have HB1 := hide (And.intro hB1 hb1)
        clear hB1 hb1
        go_wp2_with fail
        refine (unhide (HN _ (unhide HB1).2)).mono ?_
        rintro e w2 ⟨p2, rfl, hB2, hb2⟩
        have HB2 := hide (And.intro hB2 (And.intro hb2 ((unhide HB1).1.new hb2)))
        clear hB2 hb2 HN
        go_wp2_with fail
        refine (datagram_any _ _ _ _ _).mono ?_
        rintro e w3 ⟨rfl, hb3⟩
        have HB3 := hide (And.intro hb3 ((unhide HB2).2.2.new hb3))
        clear hb3
        dsimp only [pkC, dgram]
        go_wp2_with fail
        have hW3 : Below w3.heap.size w3 (w3.alloc (.cells (pkC (dgram 1 7 70 9)) 38)) := (Below.refl _ _).alloc (Nat.le_refl _) _
        refine (passC ((unhide HB3).2.new hW3) (box_pass1 _ (by omega))).mono ?_
        rintro e w4 ⟨rfl, hB4, hF4⟩
        have e1 := (unhide HB).size
        have e2 := (unhide HB1).2.size
        have e3 := (unhide HB2).2.1.size
        have e4 := (unhide HB3).1.size
        have hp4 : w4.heap[w3.heap.size]? = some (.cells (pkC (dgram 1 7 70 9)) 38 (0, 0)) := hF4.some (blkN _ _ _ rfl) (fun hk => by have := hk.2; omega)
        have e5 : w3.heap.size + 1 ≤ w4.heap.size := by have := hF4.size; simpa using this
        have hX4 : BoxR w4 (fun k => w1.heap.size ≤ k ∧ k < w2.heap.size) p2 (boxB (99 + size)) := (((unhide HB2).1.new (unhide HB3).1).new hW3).keep hF4 (fun k hk hk' => by have := hk.1; have := hk'.2; omega)
        have HB4 := hide (And.intro hB4 (And.intro hX4 (And.intro hp4 ((Fr.of_below (X := fun k => wr.heap.size ≤ k ∧ k < w1.heap.size) (((unhide HB2).2.1.mono e2 |> fun h => (unhide HB1).2.trans h).trans ((unhide HB3).1.mono (by omega)) |>.trans (hW3.mono (by omega)))).trans hF4))))
        clear hB4 hF4 hp4 hX4 hW3
        dsimp only [pkC, q1P]
        go_wp2_with fail
        refine (answer_any q1P _).mono ?_
        rintro e w5 ⟨rfl, hb5⟩
        have hW4 : Below w4.heap.size w4 (w4.alloc (.cells (pkC q1P) 38)) := (Below.refl _ _).alloc (Nat.le_refl _) _
        have hb45 : Below w4.heap.size w4 w5 := hW4.trans (hb5.mono (by simp))
        have hq5 : w5.heap[w4.heap.size]? = some (.cells (pkC q1P) 38 (0, 0)) := (hb5.block _ (by simp)).trans (blkN _ _ _ rfl)
        have e6 : w4.heap.size + 1 ≤ w5.heap.size := by have := hb5.size; simpa using this
        have HB5 := hide (And.intro hb45 hq5)
        clear hW4 hb5 hb45 hq5
        dsimp only [pkC, answerF, q1P]
        go_wp2_with fail
        refine (passC ((unhide HB4).1.new (unhide HB5).1) (box_pass2 _)).mono ?_
        rintro e w6 ⟨rfl, hB6, hF6⟩
        have far6 : ∀ k, grow (fun k => wr.heap.size ≤ k ∧ k < w1.heap.size) (w3.alloc (.cells (pkC (dgram 1 7 70 9)) 38)) w4 k → k < w1.heap.size ∨ (w3.heap.size + 1 ≤ k ∧ k < w4.heap.size) := by
          rintro k (hk | hk)
          · exact .inl hk.2
          · exact .inr ⟨by simpa using hk.1, hk.2⟩
        have hp6 : w6.heap[w3.heap.size]? = some (.cells (pkC (dgram 1 7 70 9)) 38 (0, 0)) := hF6.some (((unhide HB5).1.block _ (by omega)).trans (unhide HB4).2.2.1) (fun hk => by rcases far6 _ hk with h' | h' <;> omega)
        have hq6 : w6.heap[w4.heap.size]? = some (.cells (pkC q1P) 38 (0, 0)) := hF6.some (unhide HB5).2 (fun hk => by rcases far6 _ hk with h' | h' <;> omega)
        have hX6 : BoxR w6 (fun k => w1.heap.size ≤ k ∧ k < w2.heap.size) p2 (boxB (99 + size)) := ((unhide HB4).2.1.new (unhide HB5).1).keep hF6 (fun k hk hk' => by have := hk.1; have := hk.2; rcases far6 k hk' with h' | h' <;> omega)
        have e7 : w5.heap.size ≤ w6.heap.size := hF6.size
        have hFin : Below w.heap.size w w6 := by
          have hFr : Fr (fun k => wr.heap.size ≤ k) wr w6 := ((unhide HB4).2.2.2.mono (fun k hk _ => hk.1)).trans' ((Fr.of_below (X := fun k => wr.heap.size ≤ k) (unhide HB5).1).trans' hF6 (fun k hk _ => by rcases far6 k hk with h' | h'; exact hk.elim (fun h => h.1) (fun h => by have := h.1; simp at this; omega); omega)) (fun k hk _ => hk)
          exact (unhide HB).trans ⟨hFr.os, hFr.tape, hFr.output, hFr.size, fun k hk => hFr.block k (by omega) (by omega)⟩
        have HB6 := hide (And.intro hX6 hFin)
        obtain ⟨p0, p1', p2', p3, p4, -⟩ := pk_cells hp6
        obtain ⟨q0, q1, q2, q3, q4, -⟩ := pk_cells hq6
        dsimp only [dgram, q1P] at p0 p1' p2' p3 p4 q0 q1 q2 q3 q4
        have e8 : w3.heap.size < w6.heap.size := by omega
        have e9 : w4.heap.size < w6.heap.size := by omega
        clear hp6 hq6 hX6 hFin hB6 hF6 far6
        dsimp only [pkC]
        go_wp2
        go_ret
        obtain ⟨hX6, hFin⟩ := unhide HB6
        have hs6 := hFin.size
        refine ⟨p2, rfl, BoxR.mono (hX6.new ((Below.refl _ _).alloc (Nat.le_refl _) _)) (fun k hk => ⟨by have := hk.1; omega, by have := hk.2; simp; omega⟩) (fun k hk => hk.2), hFin.alloc hs6 _⟩
end

section
open Go.RowKit

/-- a block that is none of the box's -/
def Out (F : Nat → Prop) (W : World) (k : Nat) (o : Obj) : Prop := W.heap[k]? = some o ∧ ¬ F k

theorem Out.pass {F : Nat → Prop} {W w' : World} {k : Nat} {o : Obj} (h : Out F W k o) (hF : Fr F W w') : Out (grow F W w') w' k o := by
  refine ⟨hF.some h.1 h.2, ?_⟩
  have := (Array.getElem?_eq_some_iff.1 h.1).1
  rintro (hk | hk)
  · exact h.2 hk
  · omega

theorem Out.new {F : Nat → Prop} {W w' : World} {k : Nat} {o : Obj} (h : Out F W k o) (hb : Below W.heap.size W w') : Out F w' k o :=
  ⟨(hb.block k (Array.getElem?_eq_some_iff.1 h.1).1).trans h.1, h.2⟩

theorem Out.alloc {F : Nat → Prop} {W : World} {b : Nat} {B : List (Int × Tn)} (h : BoxR W F b B) (o : Obj) : Out F (W.alloc o) W.heap.size o := by
  refine ⟨blkN _ _ _ rfl, fun hk => ?_⟩
  obtain ⟨r, C, _, _, _, h4⟩ := h
  have := h4 _ hk
  omega

theorem end_cells {w : World} {b : Nat} {a p : Int} (h : w.heap[b]? = some (.cells #[.int .i64 a, .int .i64 p] 34 (0, 0))) : w.cell? ⟨b, 0, none⟩ = some (.int .i64 a) ∧ w.cell? ⟨b, 1, none⟩ = some (.int .i64 p) := by
  constructor <;> simp [World.cell?, h]

end

section
open Go.RowKit

/-- a statement's box, on its way: its blocks are new since w0, and nothing that lay in w0 has turned -/
structure St (w0 W : World) (F : Nat → Prop) (b : Nat) (B : List (Int × Tn)) : Prop where
  box : BoxR W F b B
  base : ∀ k, F k → w0.heap.size ≤ k
  fr : Fr (fun k => w0.heap.size ≤ k) w0 W

theorem St.new {w0 W w' : World} {F : Nat → Prop} {b : Nat} {B : List (Int × Tn)} (h : St w0 W F b B) (hb : Below W.heap.size W w') : St w0 w' F b B :=
  ⟨h.box.new hb, h.base, h.fr.trans (Fr.of_below hb)⟩

theorem St.step {w0 W w' : World} {F : Nat → Prop} {b : Nat} {B B' : List (Int × Tn)} (h : St w0 W F b B) (h1 : BoxR w' (grow F W w') b B') (h2 : Fr F W w') : St w0 w' (grow F W w') b B' := by
  refine ⟨h1, ?_, h.fr.trans' h2 (fun k hk _ => h.base k hk)⟩
  rintro k (hk | hk)
  · exact h.base k hk
  · have := h.fr.size
    omega

theorem St.below {w0 W : World} {F : Nat → Prop} {b : Nat} {B : List (Int × Tn)} (h : St w0 W F b B) : Below w0.heap.size w0 W :=
  ⟨h.fr.os, h.fr.tape, h.fr.output, h.fr.size, fun k hk => h.fr.block k hk (by omega)⟩

theorem passS {w0 W : World} {F : Nat → Prop} {b : Nat} {B B' : List (Int × Tn)} {p q : Pk} {v e : Int} (h : St w0 W F b B) (hp : passB B p = (B', q, v, e)) :
    Calls Try.prog 18 #[.pointer (some ⟨b, 0, none⟩), .agg (pkC p)] W fun en w' => en = .returned (.tuple #[.agg (pkC q), .int .i64 v, .int .i64 e]) ∧ St w0 w' (grow F W w') b B' ∧ Fr F W w' := by
  refine (passC h.box hp).mono ?_
  rintro en w' ⟨rfl, h1, h2⟩
  exact ⟨rfl, h.step h1 h2, h2⟩

theorem belowA (W : World) (o : Obj) : Below W.heap.size W (W.alloc o) := (Below.refl _ _).alloc (Nat.le_refl _) o

end

section
open Go.RowKit

set_option maxHeartbeats 1000000 in
theorem Table_some {w : World} {b r : Nat} {C : List BC} (h : BoxC w b r C) {x : BC} (hx : x ∈ C) :
    Calls Try.prog 19 #[.pointer (some ⟨b, 0, none⟩), .int .i64 x.tag] w fun e w' => ∃ lv, e = .returned (.tuple #[lv, .int .i64 0]) ∧ TabR w' w.heap.size lv (tableF x.T) ∧ Below w.heap.size w w' := by
  have hlook := h.look_some hx
  obtain ⟨l1, c0⟩ := h.cell
  have HT := hide (table_ten (h.ten x hx).1)
  clear h hx
  go_enter Try.func19, Try.ntmps19
  go_wp2_with fail
  refine (unhide HT).mono ?_
  rintro e w1 ⟨lv, rfl, hT, hb⟩
  have HX := hide (And.intro hT hb)
  clear hT hb HT
  go_wp2
  go_ret2
  exact ⟨lv, rfl, (unhide HX).1, (unhide HX).2⟩

theorem tableS {w0 W : World} {F : Nat → Prop} {b : Nat} {B : List (Int × Tn)} {tag : Int} {T : Tn} (h : St w0 W F b B) (hf : B.find? (isT tag) = some (tag, T)) :
    Calls Try.prog 19 #[.pointer (some ⟨b, 0, none⟩), .int .i64 tag] W fun e w' => ∃ lv, e = .returned (.tuple #[lv, .int .i64 0]) ∧ TabR w' W.heap.size lv (tableF T) ∧ Below W.heap.size W w' := by
  obtain ⟨r, C, h1, h2, _⟩ := h.box
  have hm := List.mem_of_find?_eq_some hf
  rw [← h2] at hm
  obtain ⟨x, hx, e⟩ := List.mem_map.1 hm
  have e1 : x.tag = tag := (Prod.mk.inj e).1
  have e2 : x.T = T := (Prod.mk.inj e).2
  have := Table_some h1 hx
  rw [e1, e2] at this
  exact this

end

section
open Go.RowKit

end

end Go.Proofs.Ytgpplekabohneaa
