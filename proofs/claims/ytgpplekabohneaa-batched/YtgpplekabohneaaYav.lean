/- A worker for the machine of a batch: from its birth on. · The queues: the map's entries; the loop that closes them. · The starter's loop over the packets: its script, what it owns, what lies there. -/
import Derived.Test.YtgpplekabohneaaYas
import Derived.Test.YtgpplekabohneaaYau
import Derived.Test.YtgpplekabohneaaRv
namespace Go.Proofs.Ytgpplekabohneaa.Co
open Go Go.Conc Go.ConcN Go.RowKit
open Go.ConcR (stA smA rd wr)

/-! ### what may be listed -/
theorem wk_own (Wg : Nat) : LetsOwn (EvWk Wg) (fun _ => False) := by
  intro O A wr hO _
  refine ⟨fun x hx => .inr ?_, by simp⟩
  simp only [MemAct.ofEvent, MemAct.touch?, Option.some.injEq] at hx
  subst hx
  exact hO
theorem wk_ok (Wg : Nat) : ∀ O e r, EvOk r e → (∀ b B, r b B → O.B B) → EvWk Wg O e := by
  intro O e r h hr
  obtain ⟨loc, wr, sy⟩ := e
  unfold EvOk at h
  dsimp only at h
  cases loc with
  | cell A =>
    obtain ⟨⟨b, hb⟩, rfl⟩ := h
    refine ⟨fun x hx => .inr ?_, by simp⟩
    simp only [MemAct.ofEvent, MemAct.touch?, Option.some.injEq] at hx
    subst hx
    exact .inl (hr b _ hb)
  | obj B =>
    obtain ⟨⟨b, hb⟩, rfl⟩ := h
    refine ⟨fun x hx => .inr ?_, by simp⟩
    simp only [MemAct.ofEvent, MemAct.touch?, Option.some.injEq] at hx
    subst hx
    exact hr b _ hb
  | mark m =>
    cases m with
    | noRoom => exact ⟨fun x hx => by simp [MemAct.ofEvent, MemAct.touch?] at hx, by simp⟩
    | _ => exact h.elim
  | _ => exact h.elim
theorem wk_fin (Wg : Nat) : FEv (EvWk Wg) Wg := by
  refine ⟨fun O => ⟨fun x hx => by simp [Go.ConcR.mk, MemAct.ofEvent, MemAct.touch?] at hx, by simp [Go.ConcR.mk]⟩, fun O e he => ⟨fun x hx => ?_, he.2.2.2⟩⟩
  rcases (he.1 0 "").2 x hx with h | h | h
  · exact .inl h
  · exact h.elim
  · exact h.1.elim

theorem mn_own (Wg : Nat) : LetsOwn (EvMn Wg) (fun b => b = Wg) := by
  intro O A wr hO hZ
  refine ⟨fun x hx => .inr ?_, by simp⟩
  simp only [MemAct.ofEvent, MemAct.touch?, Option.some.injEq] at hx
  subst hx
  refine ⟨?_, hO⟩
  rintro ⟨a, ha, hb⟩
  cases ha
  exact hZ hb
theorem mn_obj (Wg : Nat) : LetsObj (EvMn Wg) (fun b => b = Wg) := by
  intro O b wr hO _
  refine ⟨fun x hx => .inr ?_, by simp⟩
  simp only [MemAct.ofEvent, MemAct.touch?, Option.some.injEq] at hx
  subst hx
  exact ⟨(by rintro ⟨a, ha, _⟩; cases ha), hO⟩
theorem mn_grp (Wg : Nat) : GEv (EvMn Wg) Wg := by
  refine ⟨fun O => ⟨fun x hx => ?_, by simp [Go.ConcR.mk]⟩, fun O => ⟨fun x hx => ?_, by simp [Go.ConcR.mk]⟩, fun O => ⟨fun x hx => ?_, by simp [Go.ConcR.mk]⟩, fun O => ⟨fun x hx => ?_, by simp [rd]⟩, fun O => ⟨fun x hx => ?_, by simp [wr]⟩⟩
  · simp [Go.ConcR.mk, MemAct.ofEvent, MemAct.touch?] at hx
  · simp [Go.ConcR.mk, MemAct.ofEvent, MemAct.touch?] at hx
  · simp only [Go.ConcR.mk, MemAct.ofEvent, MemAct.touch?, Option.some.injEq] at hx
    subst hx
    exact .inl ⟨⟨_, rfl, rfl⟩, by simp⟩
  · simp only [rd, MemAct.ofEvent, MemAct.touch?, Option.some.injEq] at hx
    subst hx
    exact .inl ⟨⟨_, rfl, rfl⟩, by simp⟩
  · simp only [wr, MemAct.ofEvent, MemAct.touch?, Option.some.injEq] at hx
    subst hx
    exact .inl ⟨⟨_, rfl, rfl⟩, by simp⟩
theorem mn_said (Wg : Nat) (O : Own) : EvMn Wg O (Go.ConcR.mk (.write (smA Wg))) := by
  refine ⟨fun x hx => ?_, by simp [Go.ConcR.mk]⟩
  simp only [Go.ConcR.mk, MemAct.ofEvent, MemAct.touch?, Option.some.injEq] at hx
  subst hx
  exact .inl ⟨⟨_, rfl, rfl⟩, by simp⟩

/-! ### what comes of a list of packets -/
/-- The tenant behind them. -/
def finT : Tn → List (Nat × Pk) → Tn
  | T, [] => T
  | T, ip :: l => finT (passF T ip.2).1 l
/-- The results, with their places. -/
def finR : Tn → List (Nat × Pk) → List (Nat × Pk × Int)
  | _, [] => []
  | T, ip :: l => (ip.1, (passF T ip.2).2.1, (passF T ip.2).2.2) :: finR (passF T ip.2).1 l

theorem finR_fst : ∀ (T : Tn) (l : List (Nat × Pk)), (finR T l).map (·.1) = l.map (·.1)
  | _, [] => rfl
  | T, ip :: l => by simp [finR, finR_fst _ l]

def valP (x : Nat × Pk) : Value := .agg (plC x.1 x.2)

/-- FROM PACKET TO PACKET, AND TO THE GROUP's Done. -/
theorem worker_run (s : WS) (hrw : s.rs ≠ s.Wg) {all : List Nat} :
    ∀ (l : List (Nat × Pk)) (T : Tn) (done : List (Nat × Pk × Int)) (S : Nat → Prop) (j : Nat → Value) (w : World), (∀ x ∈ l, x.1 ∈ all ∧ x.1 < s.N ∧ 1 ≤ x.2.proto ∧ x.2.proto ≤ 3) → (l.map (·.1)).Nodup → (∀ x ∈ done, x.1 ∈ all ∧ ∀ y ∈ l, y.1 ≠ x.1) →
      Held s all T done ⟨s.own S all, 0, s.head j, w⟩ → Run Try.prog false (EvWk s.Wg) (RStop Try.prog s.Wg plZ (Pay s all (finT T l) (done ++ finR T l)) s.c (l.map valP)) ⟨s.own S all, 0, s.head j, w⟩ := by
  intro l
  induction l with
  | nil =>
    intro T done S j w _ _ hd hh
    refine head_recv s j fun w₁ h₁ => Run.here fun w₂ h₂ => ?_
    have hh2 := hh.relied (fun x hx => (hd x hx).1) (h₁.trans h₂) (s.recv j)
    refine ⟨rfl, rfl, recv_comm s j false, fun hl => ?_⟩
    rw [finT, finR, List.append_nil]
    exact fin_run s (EvQ := EvQt) (wk_fin s.Wg) (fun _ => rfl) hh2 (fun x hx => (hd x hx).1) (Rely.refl _ _) hl hrw
  | cons ip l ih =>
    intro T done S j w hl hnd hd hh
    refine head_recv s j fun w₁ h₁ => Run.here fun w₂ h₂ => ?_
    have hh2 := hh.relied (fun x hx => (hd x hx).1) (h₁.trans h₂) (s.recv j)
    refine ⟨rfl, rfl, recv_comm s j false, ?_⟩
    obtain ⟨-, ⟨S0, L, hT, hO, hrs, hwg⟩, hres, hrow, hlt⟩ := hh2
    dsimp only at hT hO hres hrow hlt ⊢
    obtain ⟨hia, hin, hpr⟩ := hl ip (by simp)
    have hSS : S0 = S := by
      have := congrArg Own.B hO
      exact this.symm
    subst hSS
    refine iter s j (wk_own s.Wg) (wk_ok s.Wg) hT hrs hlt.1 hrow ip.1 ip.2 hpr hin hia ?_
    intro W' S' L' j' hT' hsub hnew hoth hr1 hrow' hsz
    rw [List.map_cons, List.nodup_cons] at hnd
    have key := ih (passF T ip.2).1 (done ++ [(ip.1, (passF T ip.2).2.1, (passF T ip.2).2.2)]) S' j' W' (fun x hx => hl x (by simp [hx])) hnd.2 ?_ ?_
    · rw [List.append_assoc] at key
      exact key
    · intro x hx
      rcases List.mem_append.1 hx with hx | hx
      · exact ⟨(hd x hx).1, fun y hy => (hd x hx).2 y (by simp [hy])⟩
      · simp only [List.mem_singleton] at hx
        subst hx
        exact ⟨hia, fun y hy e => hnd.1 (List.mem_map.2 ⟨y, hy, e⟩)⟩
    · refine Held.of hT' (fun x => ?_) (fun x => ?_) ?_ hrow' ⟨Nat.lt_of_lt_of_le hlt.1 hsz, Nat.lt_of_lt_of_le hlt.2 hsz⟩
      · rcases hnew _ x with y | y
        · exact hrs y
        · have := hlt.1; omega
      · rcases hnew _ x with y | y
        · exact hwg y
        · have := hlt.2; omega
      · intro x hx jj y hj
        rcases List.mem_append.1 hx with hx | hx
        · have hj16 : jj < 16 := by
            have := (Array.getElem?_eq_some_iff.1 hj).1
            simpa [reC] using this
          have hne : ip.1 ≠ x.1 := (hd x hx).2 ip (by simp)
          rw [hoth (16 * x.1 + jj) (by omega) ⟨rfl, x.1, (hd x hx).1, by omega, by omega⟩]
          exact hres x hx jj y hj
        · exact hr1 x (by simpa using hx) jj y hj

/-- FROM ITS BIRTH. -/
theorem worker_born (s : WS) (hrw : s.rs ≠ s.Wg) {l : List (Nat × Pk)} {T : Tn} {S : Nat → Prop} {L : List Cl} {w : World} (hl : ∀ x ∈ l, x.1 < s.N ∧ 1 ≤ x.2.proto ∧ x.2.proto ≤ 3) (hnd : (l.map (·.1)).Nodup) (hT : TenC w S s.g s.hp s.hi T L) (hrs : ¬ S s.rs) (hwg : ¬ S s.Wg) (hrow : RowAt w s.rs s.N) (hlt : s.rs < w.heap.size ∧ s.Wg < w.heap.size) :
    Run Try.prog false (EvWk s.Wg) (RStop Try.prog s.Wg plZ (Pay s (l.map (·.1)) (finT T l) (finR T l)) s.c (l.map valP)) ⟨s.own S (l.map (·.1)), 0, s.born, w⟩ := by
  refine born_run s fun w₁ j h₁ => ?_
  have hh : Held s (l.map (·.1)) T [] ⟨s.own S (l.map (·.1)), 0, s.head j, w⟩ := Held.of hT hrs hwg (fun x hx => by cases hx) hrow hlt
  have := worker_run s hrw (all := l.map (·.1)) l T [] S j w₁ (fun x hx => ⟨List.mem_map.2 ⟨x, hx, rfl⟩, hl x hx⟩) hnd (fun x hx => by cases hx) (hh.relied (fun x hx => by cases hx) h₁ _)
  exact this

end Go.Proofs.Ytgpplekabohneaa.Co

namespace Go.Proofs.Ytgpplekabohneaa.Co
open Go Go.Conc Go.ConcN Go.RowKit
open Go.ConcR (KK WgAt stA smA)

/-- One queue in the map. -/
def qent (x : Int × Nat) (i : Nat) : MapEntry := { key := .int .i64 x.1, val := .chan (some x.2), born := i }
/-- The queues, in the order in which they were made. -/
def qents (l : List (Int × Nat)) : List MapEntry := l.zipIdx.map fun y => qent y.1 y.2

theorem qents_push (l : List (Int × Nat)) (x : Int × Nat) : qents (l ++ [x]) = qents l ++ [qent x l.length] := by
  simp [qents, List.zipIdx_append]

theorem mem_qents {l : List (Int × Nat)} {e : MapEntry} (h : e ∈ qents l) : ∃ i x, l[i]? = some x ∧ e = qent x i := by
  obtain ⟨⟨x, i⟩, hm, rfl⟩ := List.mem_map.1 h
  refine ⟨i, x, ?_, rfl⟩
  have := List.mem_zipIdx_iff_getElem?.1 hm
  simpa using this
theorem qents_mem {l : List (Int × Nat)} {i : Nat} {x : Int × Nat} (h : l[i]? = some x) : qent x i ∈ qents l :=
  List.mem_map.2 ⟨(x, i), List.mem_zipIdx_iff_getElem?.2 (by simpa using h), rfl⟩

theorem qents_born (l : List (Int × Nat)) : (qents l).map (·.born) = List.range l.length := by
  refine List.ext_getElem? fun i => ?_
  simp only [qents, List.map_map, List.getElem?_map, List.getElem?_zipIdx]
  rcases Nat.lt_or_ge i l.length with h | h
  · simp [h, qent]
  · simp [h]
theorem qents_nodup (l : List (Int × Nat)) : ((qents l).map (·.born)).Nodup := by rw [qents_born]; exact List.nodup_range
theorem qents_lt {l : List (Int × Nat)} {e : MapEntry} (h : e ∈ qents l) : e.born < l.length := by
  obtain ⟨i, x, hi, rfl⟩ := mem_qents h
  exact (List.getElem?_eq_some_iff.1 hi).1
theorem qents_val {l : List (Int × Nat)} {e : MapEntry} (h : e ∈ qents l) : ∃ c, e.val = .chan (some c) := by
  obtain ⟨i, x, _, rfl⟩ := mem_qents h
  exact ⟨_, rfl⟩
theorem qents_key {l : List (Int × Nat)} {e : MapEntry} (h : e ∈ qents l) : ∃ n : Int, e.key = .int .i64 n := by
  obtain ⟨i, x, _, rfl⟩ := mem_qents h
  exact ⟨_, rfl⟩
/-- Two queues are of two channels. -/
theorem qents_inj {l : List (Int × Nat)} (hn : (l.map (·.2)).Nodup) {e e' : MapEntry} (h : e ∈ qents l) (h' : e' ∈ qents l) (hv : e.val = e'.val) : e = e' := by
  obtain ⟨i, x, hi, rfl⟩ := mem_qents h
  obtain ⟨i', x', hi', rfl⟩ := mem_qents h'
  simp only [qent, Value.chan.injEq, Option.some.injEq] at hv
  have : i = i' := by
    refine Co.nodup_idx hn (c := x.2) (by simp [hi]) ?_
    simp [hi', hv]
  subst this
  rw [hi] at hi'; cases hi'
  rfl
theorem born_inj {l : List (Int × Nat)} {e e' : MapEntry} (h : e ∈ qents l) (h' : e' ∈ qents l) (hb : e.born = e'.born) : e = e' := by
  obtain ⟨i, x, hi, rfl⟩ := mem_qents h
  obtain ⟨i', x', hi', rfl⟩ := mem_qents h'
  simp only [qent] at hb
  subst hb
  rw [hi] at hi'; cases hi'
  rfl

theorem mem_left {es : Array MapEntry} {seen : Array Nat} {e : MapEntry} : e ∈ (leftOf es seen).toList ↔ e ∈ es.toList ∧ e.born ∉ seen := by
  unfold leftOf
  simp

/-- THE QUEUES ARE CLOSED, one behind the other, in whatever order. -/
theorem close_loop (m : MS) (c : Frame) (cs : List Frame) {l : List (Int × Nat)} (hnd : (l.map (·.2)).Nodup) {O : Own} {it N : Nat} (hN : N < 2147483648) (hX : O.X m.Wg) (hiW : it ≠ m.Wg) (hqW : m.q ≠ m.Wg) {F : Own → World → Prop} (hFs : ∀ w w₁, F O w → Rely (O.but it) w w₁ → F O w₁) :
    ∀ (n : Nat) (op : List Nat) (seen : Array Nat) (c0 : Nat) (w : World) (j : Nat → Value), j 66 = .pointer (some ⟨it, 0, none⟩) → Iter m.q O w it l.length c0 l.length seen (qents l).toArray → Live m.Wg w → F O w → op.Nodup → op.length = n → (∀ x, x ∈ op ↔ ∃ e ∈ (leftOf (qents l).toArray seen).toList, e.val = .chan (some x)) →
      Run Try.prog true (EvMn m.Wg) (CStop Try.prog m.Wg N (MNext m c cs F) n op) ⟨O, 0, m.head2 (c :: cs) j, w⟩ := by
  intro n
  induction n with
  | zero =>
    intro op seen c0 w j h66 hI hl hf _ hlen hop
    have hop0 : op = [] := List.length_eq_zero_iff.1 hlen
    subst hop0
    have hleft : (leftOf (qents l).toArray seen).size = 0 := by
      apply Classical.byContradiction
      intro hne
      obtain ⟨e, he⟩ : ∃ e, e ∈ (leftOf (qents l).toArray seen).toList := by
        cases hx : (leftOf (qents l).toArray seen).toList with
        | nil => exact absurd (by simpa using congrArg List.length hx) hne
        | cons a b => exact ⟨a, by simp⟩
      obtain ⟨ch, hch⟩ := qents_val (by simpa using (mem_left.1 he).1)
      have := (hop ch).2 ⟨e, he, hch⟩
      cases this
    exact head2_none m c cs j (mn_obj m.Wg) (mn_grp m.Wg) (mn_said m.Wg) h66 hI hiW hqW (fun x hx => qents_lt (by simpa using hx)) (Nat.le_refl _) hleft N hN hX hl (fun w₁ h₁ => hFs w w₁ hf (h₁.less (fun _ x => x.1) (fun _ _ x => x.1) (fun _ x => x.1)))
  | succ n ih =>
    intro op seen c0 w j h66 hI hl hf hop1 hlen hop
    have hleft : (leftOf (qents l).toArray seen).size ≠ 0 := by
      intro h0
      have he0 : (leftOf (qents l).toArray seen).toList = [] := List.eq_nil_of_length_eq_zero (by simpa using h0)
      cases op with
      | nil => simp at hlen
      | cons x r =>
        obtain ⟨e, he, _⟩ := (hop x).1 (by simp)
        rw [he0] at he; cases he
    refine head2_some m (c :: cs) j (mn_obj m.Wg) h66 hI hiW hqW (fun x hx => qents_lt (by simpa using hx)) (Nat.le_refl _) (by simpa using qents_nodup l) (fun x hx => qents_val (by simpa using hx)) hleft (fun w₁ j' e ch he hv h66' h71 hI1 hR1 => ?_)
    refine Run.here fun w₂ h₂ => ?_
    obtain ⟨hmw, g', hg', hst, hback⟩ := atC_close m (c :: cs) j' h71
    have heq : e ∈ qents l := by simpa using (mem_left.1 he).1
    have hl2 : Live m.Wg w₂ := h₂.live m.Wg hX (hR1.live m.Wg ⟨hX, Ne.symm hiW⟩ hl)
    refine ⟨rfl, rfl, hmw, ch, (hop ch).2 ⟨e, he, hv⟩, g', hg', hst, hback (ih (op.erase ch) (seen.push e.born) l.length w₂ j' h66' (hI1.rely h₂) hl2 (hFs _ _ hf (hR1.trans (h₂.less (fun _ x => x.1) (fun _ _ x => x.1) (fun _ x => x.1)))) (hop1.erase ch) ?_ fun x => ?_)⟩
    · rw [List.length_erase_of_mem ((hop ch).2 ⟨e, he, hv⟩), hlen]; rfl
    · rw [hop1.mem_erase_iff]
      constructor
      · rintro ⟨hne, hx⟩
        obtain ⟨e', he', hv'⟩ := (hop x).1 hx
        refine ⟨e', mem_left.2 ⟨(mem_left.1 he').1, ?_⟩, hv'⟩
        intro hmem
        rcases Array.mem_push.1 hmem with y | y
        · exact (mem_left.1 he').2 y
        · have : e' = e := born_inj (by simpa using (mem_left.1 he').1) heq y
          subst this
          rw [hv] at hv'
          cases hv'
          exact hne rfl
      · rintro ⟨e', he', hv'⟩
        obtain ⟨m1, m2⟩ := mem_left.1 he'
        have hnb : e'.born ∉ seen ∧ e'.born ≠ e.born := ⟨fun y => m2 (Array.mem_push.2 (.inl y)), fun y => m2 (Array.mem_push.2 (.inr y))⟩
        refine ⟨?_, (hop x).2 ⟨e', mem_left.2 ⟨m1, hnb.1⟩, hv'⟩⟩
        rintro rfl
        have : e' = e := qents_inj hnd (by simpa using m1) heq (hv'.trans hv.symm)
        subst this
        exact hnb.2 rfl

end Go.Proofs.Ytgpplekabohneaa.Co

namespace Go.Proofs.Ytgpplekabohneaa.Co
open Go Go.Conc Go.ConcN Go.RowKit
open Go.ConcR (KK WgAt stA smA)

/-- Packets with their places, from place i on. -/
def plF : Nat → List Pk → List (Nat × Pk)
  | _, [] => []
  | i, p :: l => (i, p) :: plF (i + 1) l

theorem plF_mem : ∀ {l : List Pk} {i : Nat} {x : Nat × Pk}, x ∈ plF i l → i ≤ x.1 ∧ x.1 < i + l.length ∧ l[x.1 - i]? = some x.2
  | [], _, _, h => by cases h
  | p :: l, i, x, h => by
    rcases List.mem_cons.1 h with rfl | h
    · exact ⟨Nat.le_refl _, by simp, by simp⟩
    · obtain ⟨h1, h2, h3⟩ := plF_mem h
      refine ⟨by omega, by simp; omega, ?_⟩
      rw [show x.1 - i = (x.1 - (i + 1)) + 1 by omega]
      simpa using h3
theorem plF_nodup : ∀ (l : List Pk) (i : Nat), ((plF i l).map (·.1)).Nodup
  | [], _ => List.nodup_nil
  | p :: l, i => by
    rw [plF, List.map_cons, List.nodup_cons]
    refine ⟨fun h => ?_, plF_nodup l (i + 1)⟩
    obtain ⟨x, hx, he⟩ := List.mem_map.1 h
    have := (plF_mem hx).1
    dsimp only at he
    omega
theorem plF_append : ∀ (l l' : List Pk) (i : Nat), plF i (l ++ l') = plF i l ++ plF (i + l.length) l'
  | [], l', i => by simp [plF]
  | p :: l, l', i => by
    rw [List.cons_append, plF, plF, plF_append l l' (i + 1), List.cons_append, show i + (p :: l).length = i + 1 + l.length by rw [List.length_cons]; omega]

/-- Where a tag stands. -/
def at? (t : Int) : List Int → Option Nat
  | [] => none
  | a :: l => if a = t then some 0 else (at? t l).map (· + 1)
theorem at?_some {t : Int} : ∀ {l : List Int} {k : Nat}, at? t l = some k → l[k]? = some t
  | [], _, h => by cases h
  | a :: l, k, h => by
    unfold at? at h
    split at h
    · rename_i e
      cases h
      simp [e]
    · obtain ⟨k', h1, rfl⟩ := Option.map_eq_some_iff.1 h
      simpa using at?_some h1
theorem at?_none {t : Int} : ∀ {l : List Int}, at? t l = none → t ∉ l
  | [], _ => by simp
  | a :: l, h => by
    unfold at? at h
    split at h
    · cases h
    · rename_i e
      simp only [Option.map_eq_none_iff] at h
      simp only [List.mem_cons, not_or]
      exact ⟨fun x => e x.symm, at?_none h⟩

section
variable (has : Int → Bool)
def script : List (Nat × Pk) → List Int → List Cmd
  | [], _ => []
  | x :: l, tags => if has x.2.tag then (match at? x.2.tag tags with
      | some k => .send k (valP x) :: script l tags
      | none => .go :: .send tags.length (valP x) :: script l (tags ++ [x.2.tag])) else script l tags
def lastTags : List (Nat × Pk) → List Int → List Int
  | [], tags => tags
  | x :: l, tags => if has x.2.tag then (match at? x.2.tag tags with
      | some _ => lastTags l tags
      | none => lastTags l (tags ++ [x.2.tag])) else lastTags l tags
end

theorem last_prefix {has : Int → Bool} : ∀ (l : List (Nat × Pk)) (tags : List Int) {k : Nat} {t : Int}, tags[k]? = some t → (lastTags has l tags)[k]? = some t
  | [], _, _, _, h => h
  | x :: l, tags, k, t, h => by
    unfold lastTags
    split
    · split
      · exact last_prefix l tags h
      · exact last_prefix l _ (by rw [List.getElem?_append_left (List.getElem?_eq_some_iff.1 h).1]; exact h)
    · exact last_prefix l tags h

theorem goes_script {has : Int → Bool} : ∀ (l : List (Nat × Pk)) (tags : List Int), tags.length + goes (script has l tags) = (lastTags has l tags).length
  | [], _ => rfl
  | x :: l, tags => by
    unfold script lastTags
    split
    · split
      · simp only [goes]; exact goes_script l tags
      · have := goes_script (has := has) l (tags ++ [x.2.tag])
        simp only [goes, List.length_append, List.length_cons, List.length_nil] at this ⊢
        omega
    · exact goes_script l tags

theorem last_tags {has : Int → Bool} : ∀ (l : List (Nat × Pk)) (tags : List Int), tags.Nodup → (∀ t ∈ tags, has t = true) → (lastTags has l tags).Nodup ∧ (∀ t ∈ lastTags has l tags, has t = true) ∧ ∀ t, t ∈ lastTags has l tags ↔ t ∈ tags ∨ (has t = true ∧ ∃ x ∈ l, x.2.tag = t)
  | [], tags, h1, h2 => ⟨h1, h2, fun t => by simp [lastTags]⟩
  | x :: l, tags, h1, h2 => by
    unfold lastTags
    split
    · rename_i hx
      split
      · rename_i k hk
        obtain ⟨a, b, c⟩ := last_tags l tags h1 h2
        refine ⟨a, b, fun t => ?_⟩
        rw [c]
        constructor
        · rintro (y | ⟨y, z, hz, e⟩)
          · exact .inl y
          · exact .inr ⟨y, z, by simp [hz], e⟩
        · rintro (y | ⟨y, z, hz, e⟩)
          · exact .inl y
          · rcases List.mem_cons.1 hz with rfl | hz
            · exact .inl (e ▸ List.mem_of_getElem? (at?_some hk))
            · exact .inr ⟨y, z, hz, e⟩
      · rename_i hk
        have hn := at?_none hk
        obtain ⟨a, b, c⟩ := last_tags l (tags ++ [x.2.tag]) (by
          rw [List.nodup_append]
          exact ⟨h1, by simp, fun u hu v hv => by simp at hv; subst hv; exact fun e => hn (e ▸ hu)⟩) (by
          intro t ht
          rcases List.mem_append.1 ht with y | y
          · exact h2 t y
          · simp at y; subst y; exact hx)
        refine ⟨a, b, fun t => ?_⟩
        rw [c]
        constructor
        · rintro (y | ⟨y, z, hz, e⟩)
          · rcases List.mem_append.1 y with y | y
            · exact .inl y
            · simp at y
              exact .inr ⟨y ▸ hx, x, by simp, y.symm⟩
          · exact .inr ⟨y, z, by simp [hz], e⟩
        · rintro (y | ⟨y, z, hz, e⟩)
          · exact .inl (by simp [y])
          · rcases List.mem_cons.1 hz with rfl | hz
            · exact .inl (by simp [e])
            · exact .inr ⟨y, z, hz, e⟩
    · rename_i hx
      obtain ⟨a, b, c⟩ := last_tags l tags h1 h2
      refine ⟨a, b, fun t => ?_⟩
      rw [c]
      constructor
      · rintro (y | ⟨y, z, hz, e⟩)
        · exact .inl y
        · exact .inr ⟨y, z, by simp [hz], e⟩
      · rintro (y | ⟨y, z, hz, e⟩)
        · exact .inl y
        · rcases List.mem_cons.1 hz with rfl | hz
          · exact absurd (e ▸ y) hx
          · exact .inr ⟨y, z, hz, e⟩

/-- The packets of one tag. -/
def ofTag (t : Int) (l : List (Nat × Pk)) : List (Nat × Pk) := l.filter fun x => x.2.tag == t

theorem nodup_idxI {l : List Int} (h : l.Nodup) {i j : Nat} {c : Int} (hi : l[i]? = some c) (hj : l[j]? = some c) : i = j := by
  obtain ⟨h1, e1⟩ := List.getElem?_eq_some_iff.1 hi
  obtain ⟨h2, e2⟩ := List.getElem?_eq_some_iff.1 hj
  have hp := List.pairwise_iff_getElem.1 h
  rcases Nat.lt_trichotomy i j with hl | hl | hl
  · exact absurd (e1.trans e2.symm) (hp i j h1 h2 hl)
  · exact hl
  · exact absurd (e2.trans e1.symm) (hp j i h2 h1 hl)

theorem vals_script {has : Int → Bool} : ∀ (l : List (Nat × Pk)) (tags : List Int) {k : Nat} {t : Int}, tags.Nodup → tags[k]? = some t → has t = true → valsOf k (script has l tags) = (ofTag t l).map valP
  | [], _, _, _, _, _, _ => rfl
  | x :: l, tags, k, t, hn, hk, ht => by
    unfold script ofTag
    rw [List.filter_cons]
    by_cases hx : has x.2.tag = true
    · rw [if_pos hx]
      cases ha : at? x.2.tag tags with
      | some k' =>
        have hk' := at?_some ha
        simp only [valsOf]
        by_cases e : k' = k
        · subst e
          rw [hk] at hk'; cases hk'
          rw [if_pos rfl, vals_script l tags hn hk ht]
          simp [ofTag]
        · have hne : ¬ x.2.tag = t := fun e' => e (nodup_idxI hn hk' (e' ▸ hk))
          rw [if_neg e, vals_script l tags hn hk ht]
          simp [hne, ofTag]
      | none =>
        have hnm := at?_none ha
        have hkl := (List.getElem?_eq_some_iff.1 hk).1
        have hne : ¬ x.2.tag = t := fun e' => hnm (e' ▸ List.mem_of_getElem? hk)
        simp only [valsOf]
        rw [if_neg (by omega), vals_script l (tags ++ [x.2.tag]) (by
          rw [List.nodup_append]
          exact ⟨hn, by simp, fun u hu v hv => by simp at hv; subst hv; exact fun e => hnm (e ▸ hu)⟩) (by rw [List.getElem?_append_left hkl]; exact hk) ht]
        simp [hne, ofTag]
    · have hne : ¬ x.2.tag = t := fun e' => hx (e' ▸ ht)
      rw [if_neg hx, vals_script l tags hn hk ht]
      simp [hne, ofTag]

/-! ### what the starter owns -/
def mBase (m : MS) (b : Nat) : Prop := b = m.b ∨ b = m.r ∨ b = m.pb ∨ b = m.q ∨ b = m.Wg
/-- Tenants whose goroutines are not started, results of places that are nobody else's. -/
def mown (m : MS) (C : List BC) (all : List (Nat × Pk)) (tags : List Int) (ex : Nat → Prop) : Own :=
  ⟨fun b => mBase m b ∨ ex b ∨ ∃ x ∈ C, x.tag ∉ tags ∧ x.S b, fun b o => b = m.rs ∧ ∃ y ∈ all, y.2.tag ∉ tags ∧ 16 * y.1 ≤ o ∧ o < 16 * y.1 + 16, fun _ => False⟩

theorem own_ext {O U : Own} (hB : ∀ b, O.B b ↔ U.B b) (hC : ∀ b o, O.C b o ↔ U.C b o) (hX : ∀ b, O.X b ↔ U.X b) : O = U := by
  obtain ⟨b, c, x⟩ := O
  obtain ⟨b', c', x'⟩ := U
  have e1 : b = b' := funext fun y => propext (hB y)
  have e2 : c = c' := funext fun y => funext fun o => propext (hC y o)
  have e3 : x = x' := funext fun y => propext (hX y)
  rw [e1, e2, e3]

theorem mown_new (m : MS) (C : List BC) (all : List (Nat × Pk)) (tags : List Int) (n : Nat) : (mown m C all tags m.ot).new n = mown m C all tags fun b => m.ot b ∨ b = n := by
  refine own_ext (fun b => ?_) (fun _ _ => Iff.rfl) (fun _ => Iff.rfl)
  constructor
  · rintro ((h | h | h) | h)
    · exact .inl h
    · exact .inr (.inl (.inl h))
    · exact .inr (.inr h)
    · exact .inr (.inl (.inr h))
  · rintro (h | (h | h) | h)
    · exact .inl (.inl h)
    · exact .inl (.inr (.inl h))
    · exact .inr h
    · exact .inl (.inr (.inr h))

/-- What stands fast. -/
structure Fix (m : MS) (C : List BC) : Prop where
  sb : ∀ x ∈ C, ∀ b, x.S b → ¬ mBase m b ∧ b ≠ m.rs
  so : ∀ x ∈ C, ∀ b, x.S b → ¬ m.ot b
  ob : ∀ b, m.ot b → b ≠ m.q ∧ b ≠ m.Wg ∧ b ≠ m.rs
  ap : C.Pairwise fun x y => x.tag ≠ y.tag ∧ ∀ k, x.S k → ¬ y.S k
  rb : ¬ mBase m m.rs
  qW : m.q ≠ m.Wg
  bW : m.b ≠ m.Wg
  rW : m.r ≠ m.Wg
  pW : m.pb ≠ m.Wg
  bq : m.b ≠ m.q
  rq : m.r ≠ m.q
  pq : m.pb ≠ m.q
  n63 : (m.N : Int) < 9223372036854775807
  pa : m.N = 0 ∨ m.pa = some ⟨m.pb, m.off, none⟩
  small : m.N < 2147483647

/-- What lies there at the head of the loop, the first i packets having been dealt with, the queues 'st' made. -/
structure LI (m : MS) (C : List BC) (ps : List Pk) (all : List (Nat × Pk)) (i : Nat) (st : List (Int × Nat)) (w : World) : Prop where
  box : w.heap[m.b]? = some (.cells #[.map (some m.r)] 82 (0, 0))
  map : ∃ es c, w.heap[m.r]? = some (.map es c) ∧ es.toList.map (fun e => (e.key, e.val)) = C.map fun x => (Value.int .i64 x.tag, ptrV x.g)
  pk : ∃ cur e, w.heap[m.pb]? = some (.cells cur e (0, 0)) ∧ m.off + 15 * m.N ≤ cur.size ∧ ∀ k p, ps[k]? = some p → ((cur.toList.drop (m.off + k * 15)).take 15).toArray = pkC p
  qm : w.heap[m.q]? = some (.map (qents st).toArray st.length)
  wg : WgAt 125 m.Wg w ((st.length : Int) * KK) 0
  ten : ∀ x ∈ C, x.tag ∉ st.map (·.1) → TenC w x.S x.g x.hp x.hi x.T x.L
  row : RowAt w m.rs m.N
  res : ∀ y ∈ all, y.2.tag ∉ C.map (·.tag) → ∀ jj v, (reC pk0 (if y.1 < i then 1 else 0))[jj]? = some v → w.cell? ⟨m.rs, 16 * y.1 + jj, none⟩ = some v
  chl : ∀ x ∈ st, x.2 < w.heap.size
  otl : ∀ b, m.ot b → b < w.heap.size ∧ w.heap[b]? = m.w0.heap[b]?
  bg : w.os = m.w0.os ∧ w.output = m.w0.output

/-- What the queues made are. -/
structure StOk (C : List BC) (st : List (Int × Nat)) : Prop where
  nd : (st.map (·.1)).Nodup
  hs : ∀ t ∈ st.map (·.1), t ∈ C.map (·.tag)
  cn : (st.map (·.2)).Nodup

theorem LI.lies {m : MS} {C : List BC} {ps : List Pk} {all : List (Nat × Pk)} {i : Nat} {st : List (Int × Nat)} {w : World} (h : LI m C ps all i st w) : Lies (mown m C all (st.map (·.1)) m.ot) w := by
  have lt : ∀ {b : Nat} {o : Obj}, w.heap[b]? = some o → b < w.heap.size := fun x => (Array.getElem?_eq_some_iff.1 x).1
  refine ⟨?_, ?_, fun b x => x.elim⟩
  · rintro b (hb | hb | ⟨x, hx, ht, hs⟩)
    · rcases hb with rfl | rfl | rfl | rfl | rfl
      · exact lt h.box
      · obtain ⟨es, c, h1, _⟩ := h.map; exact lt h1
      · obtain ⟨cur, e, h1, _⟩ := h.pk; exact lt h1
      · exact lt h.qm
      · exact lt h.wg
    · exact (h.otl b hb).1
    · exact (h.ten x hx ht).ten.bound b hs
  · rintro b o ⟨rfl, _⟩
    obtain ⟨cur, h1, _⟩ := h.row
    exact lt h1

/-- It stands while the others act. -/
theorem LI.rely {m : MS} {C : List BC} {ps : List Pk} {all : List (Nat × Pk)} {i : Nat} {st : List (Int × Nat)} {w w₁ : World} (h : LI m C ps all i st w) (hst : StOk C st) (hr : Rely (mown m C all (st.map (·.1)) m.ot) w w₁) : LI m C ps all i st w₁ := by
  have bb : ∀ b, mBase m b → w₁.heap[b]? = w.heap[b]? := fun b hb => hr.blk b (.inl hb)
  refine ⟨(bb _ (.inl rfl)).trans h.box, ?_, ?_, (bb _ (.inr (.inr (.inr (.inl rfl))))).trans h.qm, (bb _ (.inr (.inr (.inr (.inr rfl))))).trans h.wg, fun x hx ht => (h.ten x hx ht).keep (fun b hb => hr.blk b (.inr (.inr ⟨x, hx, ht, hb⟩))) hr.size, ?_, fun y hy ht jj v hj => ?_, fun x hx => Nat.lt_of_lt_of_le (h.chl x hx) hr.size, fun b hb => ⟨Nat.lt_of_lt_of_le (h.otl b hb).1 hr.size, (hr.blk b (.inr (.inl hb))).trans (h.otl b hb).2⟩, hr.os.trans h.bg.1, hr.output.trans h.bg.2⟩
  · obtain ⟨es, c, h1, h2⟩ := h.map
    exact ⟨es, c, (bb _ (.inr (.inl rfl))).trans h1, h2⟩
  · obtain ⟨cur, e, h1, h2⟩ := h.pk
    exact ⟨cur, e, (bb _ (.inr (.inr (.inl rfl)))).trans h1, h2⟩
  · obtain ⟨cur, h1, h2⟩ := h.row
    obtain ⟨c', h3, h4⟩ := hr.shape _ _ _ _ h1
    exact ⟨c', h3, h4.trans h2⟩
  · have hj16 : jj < 16 := by
      have := (Array.getElem?_eq_some_iff.1 hj).1
      simpa [reC] using this
    rw [show w₁.cell? ⟨m.rs, 16 * y.1 + jj, none⟩ = w.cell? ⟨m.rs, 16 * y.1 + jj, none⟩ from hr.cell _ _ ⟨rfl, y, hy, fun x => ht (hst.hs _ x), by omega, by omega⟩]
    exact h.res y hy ht jj v hj

end Go.Proofs.Ytgpplekabohneaa.Co
