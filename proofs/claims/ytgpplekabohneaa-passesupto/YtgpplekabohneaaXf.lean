/- 'in' of the document; what the walks of 'out' share. -/
import Derived.Test.YtgpplekabohneaaKi
import Derived.Test.YtgpplekabohneaaXb
import Derived.Laws.Tables
namespace Go.Proofs.Ytgpplekabohneaa
open Go.RowKit

/-- what a packet leaves of the document's box -/
def RFin (w : World) (S : Nat → Prop) (r : Nat) (tv : Value) (ts : List Ten) (L : List RCl) (t : Nat) (ms : List Mp) (q0 : Pk) (v : Int) (e : Ending) (w' : World) : Prop :=
  ∃ q L' lv', e = .returned (.tuple #[.agg (pkC q), .int .i64 v]) ∧ RefR w' (grow S w w') r tv lv' ts L' ∧ Fr S w w' ∧ absM L' t = ms ∧ (∀ j, j ≠ t → absM L' j = absM L j) ∧ (v = 0 → q = q0)

section
variable {w w' : World} {S : Nat → Prop} {r : Nat} {tv lv : Value} {ts : List Ten} {L : List RCl}

theorem find_none_of {t : Nat} {proto port : Int} (h : (absM L t).find? (isP proto port) = none) : L.find? (atP t proto port) = none := by
  have e := find_abs (isP proto port) t L
  rw [h] at e
  exact Option.map_eq_none_iff.1 e

theorem find_some_of {t : Nat} {proto port : Int} {m : Mp} (h : (absM L t).find? (isP proto port) = some m) : ∃ x, L.find? (atP t proto port) = some x ∧ x.m = m ∧ x.t = t ∧ x ∈ L := by
  have e := find_abs (isP proto port) t L
  rw [h] at e
  obtain ⟨x, hx, hm⟩ := Option.map_eq_some_iff.1 e
  have hk := List.find?_some hx
  simp only [Bool.and_eq_true, beq_iff_eq] at hk
  exact ⟨x, hx, hm, hk.1, List.mem_of_find?_eq_some hx⟩

theorem findI_none_of {t : Nat} {proto a b : Int} (h : (absM L t).find? (isI proto a b) = none) : L.find? (atI t proto a b) = none := by
  have e := find_abs (isI proto a b) t L
  rw [h] at e
  exact Option.map_eq_none_iff.1 e

theorem findI_some_of {t : Nat} {proto a b : Int} {m : Mp} (h : (absM L t).find? (isI proto a b) = some m) : ∃ x, L.find? (atI t proto a b) = some x ∧ x.m = m ∧ x.t = t ∧ x ∈ L := by
  have e := find_abs (isI proto a b) t L
  rw [h] at e
  obtain ⟨x, hx, hm⟩ := Option.map_eq_some_iff.1 e
  have hk := List.find?_some hx
  simp only [Bool.and_eq_true, beq_iff_eq] at hk
  exact ⟨x, hx, hm, hk.1, List.mem_of_find?_eq_some hx⟩

theorem RefR.same (h : RefR w S r tv lv ts L) (hb : Below w.heap.size w w') (t : Nat) (q q0 : Pk) (v : Int) (hv : v = 0 → q = q0) : RFin w S r tv ts L t (absM L t) q0 v (.returned (.tuple #[.agg (pkC q), .int .i64 v])) w' :=
  ⟨q, L, lv, rfl, h.grown hb, Fr.of_below hb, rfl, fun _ _ => rfl, hv⟩

/-- a mapping turns, its peers stay where they are -/
theorem RefR.updK (h : RefR w S r tv lv ts L) {x : RCl} (hx : x ∈ L) {m' : Mp} (hb : w'.heap[x.g]? = some (.cells (refC x.t m' x.sv) 140 (0, 0))) (hp : m'.peers = x.m.peers) (hF : Fr (fun k => k = x.g) w w') : RefR w' (grow S w w') r tv lv ts (updL L x.g x.sv m') := by
  refine h.upd hx hb ?_ (fun b hs => ⟨.inl ((h.mem x hx).2.2 b hs), Nat.lt_of_lt_of_le (h.bound b ((h.mem x hx).2.2 b hs)) hF.size, (h.nb x hx b hs).1, (h.nb x hx b hs).2.1, (h.nb x hx b hs).2.2⟩) hF
  rw [hp]
  exact (h.mem x hx).1.2.keep hF.size (fun b hs hl => hF.block b hl (fun e => (h.nb x hx b hs).2.2 x hx e))

theorem RefR.fr (h : RefR w S r tv lv ts L) {x : RCl} (hx : x ∈ L) (hF : Fr (fun k => k = x.g) w w') : Fr S w w' := hF.mono (fun k hk _ => by rw [hk]; exact (h.mem x hx).2.1)

theorem rin_any (h : RefR w S r tv lv ts L) {t : Nat} (ht : t < ts.length) (p : Pk) (hA : (absM L t).Pairwise apartM) (hX : ∀ x ∈ L, okX x.m) :
    Calls Try.prog 98 #[.pointer (some ⟨r, 0, none⟩), .int .i64 t, .agg (pkC p)] w fun e w' => RFin w S r tv ts L t (inF (absT ts[t] t L) p).1.maps (inF (absT ts[t] t L) p).2.1 (inF (absT ts[t] t L) p).2.2 e w' := by
  unfold inF
  show Calls Try.prog 98 _ w fun e w' => RFin w S r tv ts L t (if p.da = ts[t].outer then _ else _ : Tn × Pk × Int).1.maps (if p.da = ts[t].outer then _ else _ : Tn × Pk × Int).2.1 (if p.da = ts[t].outer then _ else _ : Tn × Pk × Int).2.2 e w'
  by_cases he : p.da = ts[t].outer
  · simp only [if_pos he]
    cases hf : (absM L t).find? (isP p.proto p.dp) with
    | none =>
      have hf' : (absT ts[t] t L).maps.find? (isP p.proto p.dp) = none := hf
      rw [hf']
      refine (rin_far h ht p (.inl (find_none_of hf))).mono ?_
      rintro e w' ⟨rfl, hb⟩
      exact h.same hb t p _ 4 (fun h0 => by cases h0)
    | some m =>
      have hf' : (absT ts[t] t L).maps.find? (isP p.proto p.dp) = some m := hf
      rw [hf']
      obtain ⟨x, hx, rfl, rfl, hxL⟩ := find_some_of hf
      dsimp only
      cases hc : x.m.peers.contains p.sa
      · refine (rin_filt h ht p hx he hc).mono ?_
        rintro e w' ⟨rfl, hb⟩
        exact h.same hb x.t p _ 5 (fun h0 => by cases h0)
      · by_cases h2 : p.proto = 2
        · refine (rin_str h ht p hx he hc h2 (hX x hxL)).mono ?_
          rintro e w' ⟨rfl, hb, hF⟩
          have hsm := marksF_same x.m p.out p.syn p.fin p.rst
          refine ⟨_, _, lv, rfl, h.updK hxL hb (marksF_peers _ _ _ _ _) hF, h.fr hxL hF, ?_, fun j hj => absM_upd_ne hxL h.apart _ _ hj, fun _ => rfl⟩
          rw [absM_upd hxL h.apart hA (m := { marksF x.m p.out p.syn p.fin p.rst with idle := 0 }) hsm]
          show _ = (if p.proto = 2 then _ else _)
          rw [if_pos h2]
          rfl
        · refine (rin_ok h ht p hx he hc (by simpa using h2)).mono ?_
          rintro e w' ⟨rfl, hb⟩
          have := h.same hb x.t { p with da := x.m.ia, dp := x.m.ip } { p with da := x.m.ia, dp := x.m.ip } 0 (fun _ => rfl)
          simp only [if_neg h2]
          exact this
  · simp only [if_neg he]
    refine (rin_far h ht p (.inr he)).mono ?_
    rintro e w' ⟨rfl, hb⟩
    exact h.same hb t p _ 4 (fun h0 => by cases h0)
end

end Go.Proofs.Ytgpplekabohneaa

namespace Go.Proofs.Ytgpplekabohneaa
open Go.RowKit

/-- between the choice of a mapping and its use -/
def OutMid (w : World) (S : Nat → Prop) (r : Nat) (tv : Value) (ts : List Ten) (L : List RCl) (t : Nat) (T : Tn) (p : Pk) (u0 u1 u2 u3 : Int) (sv : Value) (wx : World) : Prop :=
  ∃ (x : RCl) (L1 : List RCl) (lv1 : Value), sv = .pointer (some ⟨x.g, 0, none⟩) ∧ RefR wx (fun k => S k ∨ (w.heap.size + 3 ≤ k ∧ k < wx.heap.size)) r tv lv1 ts L1 ∧ Fr S w wx ∧ x ∈ L1 ∧ x.t = t ∧ (wx.heap[w.heap.size]? = some (.cells (pkC p) 38 (0, 0)) ∧ wx.heap[w.heap.size + 1]? = some (.cells (pkC pk0) 38 (0, 0)) ∧ wx.heap[w.heap.size + 2]? = some (.cells #[.int .i64 u0, .int .i64 u1, .int .i64 u2, .int .i64 u3] 73 (0, 0))) ∧ outF T p = outW { T with maps := absM L1 t } x.m p ∧ (∀ j, j ≠ t → absM L1 j = absM L j) ∧ (absM L1 t).Pairwise apartM ∧ (∀ y ∈ L1, okX y.m) ∧ x.m.peers.length ≤ 4 ∧ x.m.proto = p.proto

theorem wpList_b52 {ops : Array Oper} {rest : List Oper} {o : Oper} {a : Act} {w : World} {Q : Exit → Act → World → Prop} (hg : o.guard = none) (x0 x1 x2 : Operand) (ho : o.op = .build 52 #[(0, x0), (1, x1), (2, x2)]) (c0 c1 c2 c3 : Int)
    (h0 : a.eval x0 = .int .i64 c0) (h1 : a.eval x1 = .agg #[.int .i64 c1, .int .i64 c2]) (h2 : a.eval x2 = .int .i64 c3)
    (h : wpList Try.prog ops Q rest (a.put o.dst (.agg #[.int .i64 c0, .int .i64 c1, .int .i64 c2, .int .i64 c3, .slice none 0 0, .int .i64 0, .int .i64 0])) w) : wpList Try.prog ops Q (o :: rest) a w := by
  have hb : Try.prog.built 52 ((#[(0, x0), (1, x1), (2, x2)] : Array (Nat × Operand)).map fun (i, x) => (i, a.eval x)).toList = some #[.int .i64 c0, .int .i64 c1, .int .i64 c2, .int .i64 c3, .slice none 0 0, .int .i64 0, .int .i64 0] := by
    rw [Array.toList_map]
    show Try.prog.built 52 [(0, a.eval x0), (1, a.eval x1), (2, a.eval x2)] = _
    rw [h0, h1, h2]
    kernel_rfl
  refine wpList_build hg 52 _ ho ?_ ?_
  · rw [hb]
    rfl
  · rw [hb]
    exact h

theorem wpList_b140 {ops : Array Oper} {rest : List Oper} {o : Oper} {a : Act} {w : World} {Q : Exit → Act → World → Prop} (hg : o.guard = none) (x0 x1 : Operand) (ho : o.op = .build 140 #[(0, x0), (1, x1)]) (t c0 c1 c2 c3 : Int)
    (h0 : a.eval x0 = .int .i64 t) (h1 : a.eval x1 = .agg #[.int .i64 c0, .int .i64 c1, .int .i64 c2, .int .i64 c3, .slice none 0 0, .int .i64 0, .int .i64 0])
    (h : wpList Try.prog ops Q rest (a.put o.dst (.agg #[.int .i64 t, .int .i64 c0, .int .i64 c1, .int .i64 c2, .int .i64 c3, .slice none 0 0, .int .i64 0, .int .i64 0, .bool false, .bool false])) w) : wpList Try.prog ops Q (o :: rest) a w := by
  have hb : Try.prog.built 140 ((#[(0, x0), (1, x1)] : Array (Nat × Operand)).map fun (i, x) => (i, a.eval x)).toList = some #[.int .i64 t, .int .i64 c0, .int .i64 c1, .int .i64 c2, .int .i64 c3, .slice none 0 0, .int .i64 0, .int .i64 0, .bool false, .bool false] := by
    rw [Array.toList_map]
    show Try.prog.built 140 [(0, a.eval x0), (1, a.eval x1)] = _
    rw [h0, h1]
    kernel_rfl
  refine wpList_build hg 140 _ ho ?_ ?_
  · rw [hb]
    rfl
  · rw [hb]
    exact h

/-- 'marks', behind 'used' -/
theorem rmarks_use (g t : Nat) (m : Mp) (sv : Value) (p : Pk) (W : World) (hW : W.heap[g]? = some (.cells (refC t { m with peers := useF m.peers p.da, idle := 0 } sv) 140 (0, 0))) (hpr : m.proto = p.proto) (hX : okX m) :
    Calls Try.prog 115 #[.pointer (some ⟨g, 0, none⟩), .agg (pkC p)] W fun e w' => e = .returned (.tuple #[]) ∧ w'.heap[g]? = some (.cells (refC t (useM m p) sv) 140 (0, 0)) ∧ Fr (fun k => k = g) W w' := by
  unfold useM
  by_cases h2 : p.proto = 2
  · rw [if_pos h2]
    refine (rmarks_any g t _ sv p W hW (hpr.trans h2)).mono ?_
    rintro e w' ⟨h1, h3, h4⟩
    rw [rmarks_eq (m := { m with peers := useF m.peers p.da, idle := 0 }) hX.2] at h3
    exact ⟨h1, h3, h4⟩
  · rw [if_neg h2]
    have c1 := (ref_cells hW).2.1
    refine (rmarks_no g m.proto p W c1 (by rw [hpr]; simpa using h2)).mono ?_
    rintro e w' ⟨h1, hb⟩
    exact ⟨h1, (hb.block g (Array.getElem?_eq_some_iff.1 hW).1).trans hW, Fr.of_below hb⟩

end Go.Proofs.Ytgpplekabohneaa
