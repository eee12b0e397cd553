/- The trace in company: what is held of it while a batch's goroutines run, and between two batches. · Goroutine 0's Run carried out by the machine beside goroutines that only leave. · A tree of steps of plain code carried out by the machine beside goroutines that only leave. -/
import Derived.Test.YtgpplekabohneaaYag
import Derived.Conc.Beside
import Derived.Test.YtgpplekabohneaaYaf
namespace Go.Proofs.Ytgpplekabohneaa.Co
open Go Go.Conc Go.ConcN
open Go.ConcR (stA)

/-- What is held between two calls that go. -/
structure Calm (Shun : Loc → Prop) (B : Nat) (t : Trace) : Prop where
  clean : ∀ said, ¬ Race said t
  known : ∀ i a, touchAt t i = some a → a.loc.isMemory = true → Knows t 0 i ∨ (Shun a.loc ∧ a.kind = .atomic)
  over : t.HandedOver
  low : ∀ i a, touchAt t i = some a → a.loc.low B

theorem calm_nil : Calm (fun _ => False) 0 #[] :=
  ⟨past_nil.clean, past_nil.known, past_nil.over, fun i a ha => by simp [touchAt, Trace.act?] at ha⟩

/-- What is held while a batch's goroutines run: n goroutines, those below L0 of elder calls. -/
structure TI (Sh Shun : Loc → Prop) (own : Loc → Nat) (n L0 Wg B : Nat) (t : Trace) : Prop where
  ot : OT Sh Shun own n t
  low : ∀ i a, touchAt t i = some a → a.loc.low B
  norel : NoRelease (stA Wg) t
  over : ∀ i g, t.g? i = some g → g ≠ 0 → g < L0 → t.counts i → ∃ j, t.g? j = some 0 ∧ HappensBefore t i j
  known : ∀ i a op, t[i]? = some op → op.g < L0 → touchAt t i = some a → a.loc.isMemory = true → Knows t 0 i ∨ (Shun a.loc ∧ a.kind = .atomic)

/-- Worker k has said its word; behind it it touches the group's cells alone, deaf. -/
structure Rl (Sh : Loc → Prop) (Wg : Nat) (t : Trace) (k r : Nat) : Prop where
  rel : RelBy (stA Wg) t k r
  quiet : ∀ i a op, r < i → t[i]? = some op → op.g = k → touchAt t i = some a → Sh a.loc ∧ a.kind = .atomic

theorem touch_cases {t u : Trace} {i : Nat} {a : Touch} (h : touchAt (t ++ u) i = some a) : (∃ op, (t ++ u)[i]? = some op ∧ op.act.touch? = some a) ∧ ((i < t.size ∧ touchAt t i = some a) ∨ (t.size ≤ i ∧ ∃ op ∈ u, (t ++ u)[i]? = some op ∧ op.act.touch? = some a)) := by
  obtain ⟨op, hop, hoa⟩ := touch_of h
  refine ⟨⟨op, hop, hoa⟩, ?_⟩
  rcases getElem?_append_cases hop with ⟨h1, h2⟩ | ⟨h1, h2⟩
  · exact .inl ⟨h1, by rw [touchAt_of h2]; exact hoa⟩
  · exact .inr ⟨h1, op, h2, hop, hoa⟩

section
variable {Sh Shun : Loc → Prop} {own : Loc → Nat} {n L0 Wg B B' : Nat} {t u : Trace}

theorem TI.app (h : TI Sh Shun own n L0 Wg B t) {g : Nat} (hg : g < n) (hu : ∀ op ∈ u, OkO Sh Shun own g op) (hg2 : g = 0 ∨ L0 ≤ g ∨ ∀ op ∈ u, op.act.touch? = none)
    (hB : B ≤ B') (hl : ∀ op ∈ u, ∀ a, op.act.touch? = some a → a.loc.low B') (hr : ∀ op ∈ u, op.act ≠ .mark (.release (stA Wg))) : TI Sh Shun own n L0 Wg B' (t ++ u) := by
  refine ⟨h.ot.app hg hu, fun i a ha => ?_, h.norel.app hr, fun i g' hgi hne hlt hc => ?_, fun i a op hop hlt ha hm => ?_⟩
  · rcases (touch_cases ha).2 with ⟨_, h1⟩ | ⟨_, op, h1, _, h2⟩
    · exact Loc.low_mono hB (h.low i a h1)
    · exact hl op h1 a h2
  · obtain ⟨op, hop, hgo⟩ := Option.map_eq_some_iff.1 hgi
    rcases getElem?_append_cases hop with ⟨hi, hop'⟩ | ⟨_, hopu⟩
    · obtain ⟨j, hj, hb⟩ := h.over i g' (by simp [Trace.g?, hop', hgo]) hne hlt ((counts_old hi).1 hc)
      have hjl : j < t.size := by
        obtain ⟨z, hz, _⟩ := Option.map_eq_some_iff.1 hj
        exact lt_size_of_getElem? hz
      exact ⟨j, by simpa [Trace.g?, getElem?_append_old hjl] using hj, hb_app u hb⟩
    · have hgg : g' = g := by rw [← hgo, (hu op hopu).1]
      obtain ⟨x, hx, _⟩ := hc
      rcases hg2 with h0 | h0 | h0
      · exact absurd (hgg.trans h0) hne
      · omega
      · have : op.act.touch? = some x := by simpa [Trace.act?, hop] using hx
        rw [h0 op hopu] at this; cases this
  · rcases getElem?_append_cases hop with ⟨hi, hop'⟩ | ⟨_, hopu⟩
    · exact (h.known i a op hop' hlt (by rw [← touchAt_old hi]; exact ha) hm).imp (·.app u) id
    · rcases hg2 with h0 | h0 | h0
      · have := knows_own hop
        rw [(hu op hopu).1, h0] at this
        exact .inl this
      · have := (hu op hopu).1; omega
      · rw [touchAt_of hop, h0 op hopu] at ha; cases ha

theorem TI.mute (h : TI Sh Shun own n L0 Wg B t) (hu : ∀ op ∈ u, op.g < n ∧ op.act.touch? = none) (hr : ∀ op ∈ u, op.act ≠ .mark (.release (stA Wg))) : TI Sh Shun own n L0 Wg B (t ++ u) := by
  have old : ∀ {i a}, touchAt (t ++ u) i = some a → i < t.size ∧ touchAt t i = some a := fun ha => by
    rcases (touch_cases ha).2 with h1 | ⟨_, op, h1, _, h2⟩
    · exact h1
    · rw [(hu op h1).2] at h2; cases h2
  refine ⟨h.ot.mute hu, fun i a ha => h.low i a (old ha).2, h.norel.app hr, fun i g' hgi hne hlt hc => ?_, fun i a op hop hlt ha hm => ?_⟩
  · obtain ⟨x, hx, _⟩ := id hc
    have hi := (old (a := x) hx).1
    obtain ⟨j, hj, hb⟩ := h.over i g' (by rw [← g?_old (u := u) hi]; exact hgi) hne hlt ((counts_old hi).1 hc)
    have hjl : j < t.size := by
      obtain ⟨z, hz, _⟩ := Option.map_eq_some_iff.1 hj
      exact lt_size_of_getElem? hz
    exact ⟨j, by simpa [Trace.g?, getElem?_append_old hjl] using hj, hb_app u hb⟩
  · obtain ⟨hi, ha'⟩ := old ha
    exact (h.known i a op (by rw [← getElem?_append_old (u := u) hi]; exact hop) hlt ha' hm).imp (·.app u) id

theorem TI.wide (h : TI Sh Shun own n L0 Wg B t) (hB : B ≤ B') : TI Sh Shun own n L0 Wg B' t := ⟨h.ot, fun i a ha => Loc.low_mono hB (h.low i a ha), h.norel, h.over, h.known⟩

/-- What lies at or above the bound nobody has touched. -/
theorem TI.reown (h : TI Sh Shun own n L0 Wg B t) (own' : Loc → Nat) (hs : ∀ l, own' l = own l ∨ ¬ l.low B) : TI Sh Shun own' n L0 Wg B t :=
  ⟨h.ot.reown own' fun l => (hs l).imp id fun hl i a ha e => hl (e ▸ h.low i a ha), h.low, h.norel, h.over, h.known⟩

theorem TI.fork (h : TI Sh Shun own n L0 Wg B t) (hn : 0 < n) {x y : MemOp} (hx : x.g = 0 ∧ x.act = .go n) (hy : y.g = n ∧ y.act = .start) (h0 : Deaf t 0 = 0) (own' : Loc → Nat) (ho : ∀ l, own' l = own l ∨ (own l = 0 ∧ own' l = n)) : TI Sh Shun own' (n + 1) L0 Wg B (t ++ #[x, y]) := by
  have hnt : ∀ op ∈ #[x, y], op.act.touch? = none := by
    intro op hop
    simp only [List.mem_toArray, List.mem_cons, List.not_mem_nil, or_false] at hop
    rcases hop with rfl | rfl
    · rw [hx.2]; rfl
    · rw [hy.2]; rfl
  have old : ∀ {i a}, touchAt (t ++ #[x, y]) i = some a → i < t.size ∧ touchAt t i = some a := fun ha => by
    rcases (touch_cases ha).2 with h1 | ⟨_, op, h1, _, h2⟩
    · exact h1
    · rw [hnt op h1] at h2; cases h2
  refine ⟨h.ot.fork hn hx hy h0 own' ho, fun i a ha => h.low i a (old ha).2, h.norel.app fun op hop => ?_, fun i g' hgi hne hlt hc => ?_, fun i a op hop hlt ha hm => ?_⟩
  · simp only [List.mem_toArray, List.mem_cons, List.not_mem_nil, or_false] at hop
    rcases hop with rfl | rfl
    · rw [hx.2]; simp
    · rw [hy.2]; simp
  · obtain ⟨z, hz, _⟩ := id hc
    have hi := (old (a := z) hz).1
    obtain ⟨j, hj, hb⟩ := h.over i g' (by rw [← g?_old (u := #[x, y]) hi]; exact hgi) hne hlt ((counts_old hi).1 hc)
    have hjl : j < t.size := by
      obtain ⟨z, hz, _⟩ := Option.map_eq_some_iff.1 hj
      exact lt_size_of_getElem? hz
    exact ⟨j, by simpa [Trace.g?, getElem?_append_old hjl] using hj, hb_app _ hb⟩
  · obtain ⟨hi, ha'⟩ := old ha
    exact (h.known i a op (by rw [← getElem?_append_old (u := #[x, y]) hi]; exact hop) hlt ha' hm).imp (·.app _) id

/-- At the beginning. -/
theorem Calm.begin (h : Calm Shun B t) (hn : ∀ (i : Nat) (op : MemOp), t[i]? = some op → op.g < n) (hsh : ∀ i a, touchAt t i = some a → ¬ Sh a.loc) (hmem : ∀ i a, touchAt t i = some a → a.loc.isMemory = true) (hr : NoRelease (stA Wg) t) : TI Sh Shun (fun _ => 0) n n Wg B t := by
  refine ⟨⟨fun i op x hi hx hs => absurd hs (hsh i x (by rw [touchAt_of hi]; exact hx)), fun l h1 h2 i a ha hl => ?_, h.clean, hn⟩, h.low, hr, fun i g hg hne _ hc => h.over i g hg hne hc, fun i a op hop _ ha hm => h.known i a ha hm⟩
  rcases h.known i a ha (hmem i a ha) with hk | ⟨hs, _⟩
  · exact hk
  · exact absurd (hl ▸ hs) h2

/-! ### the words that hand over -/
theorem Rl.other {k r : Nat} (h : Rl Sh Wg t k r) (hu : ∀ op ∈ u, op.g = k → op.act.touch? = none) : Rl Sh Wg (t ++ u) k r := by
  refine ⟨h.rel.app fun i hi hg hc => ?_, fun i a op hri hop hg ha => ?_⟩
  · obtain ⟨op, hop, hgo⟩ := Option.map_eq_some_iff.1 hg
    obtain ⟨x, hx, _⟩ := hc
    rcases getElem?_append_cases hop with ⟨hlt, _⟩ | ⟨_, hopu⟩
    · omega
    · have : op.act.touch? = some x := by simpa [Trace.act?, hop] using hx
      rw [hu op hopu hgo] at this; cases this
  · rcases (touch_cases ha).2 with ⟨hi, h1⟩ | ⟨_, op', h1, h2, h3⟩
    · exact h.quiet i a op hri (by rw [← getElem?_append_old (u := u) hi]; exact hop) hg h1
    · rw [hop] at h2; cases h2
      rw [hu op h1 hg] at h3; cases h3

theorem Rl.ownS {k r : Nat} (h : Rl Sh Wg t k r) (fn : FuncId) (pos : String) (es : Array Event)
    (hes : ∀ j e, es[j]? = some e → (MemAct.ofEvent e).touch? = none ∨ ((∃ ad wr, e = ⟨.cell ad, wr, true⟩ ∧ Sh (.cell ad)) ∧ 0 < deafBehind (Deaf t k) (es.extract 0 j))) : Rl Sh Wg (t ++ MemOp.ofEvents k fn pos es) k r := by
  refine ⟨h.rel.appOwn fn pos es fun j e he => (hes j e he).imp id fun ⟨⟨ad, wr, h1, _⟩, h2⟩ => ⟨⟨ad, wr, h1⟩, h2⟩, fun i a op hri hop hg ha => ?_⟩
  rcases (touch_cases ha).2 with ⟨hi, h1⟩ | ⟨_, op', h1, h2, h3⟩
  · exact h.quiet i a op hri (by rw [← getElem?_append_old (u := MemOp.ofEvents k fn pos es) hi]; exact hop) hg h1
  · rw [hop] at h2; cases h2
    obtain ⟨e, he, rfl⟩ := Go.Conc.mem_ofEvents h1
    obtain ⟨j, hj, rfl⟩ := Array.mem_iff_getElem.1 he
    rcases hes j _ (Array.getElem?_eq_getElem hj) with h0 | ⟨⟨ad, wr, h0, hs⟩, _⟩
    · dsimp only at h3; rw [h0] at h3; cases h3
    · dsimp only at h3
      rw [h0] at h3
      cases wr <;> simp [MemAct.ofEvent, MemAct.touch?] at h3 <;> subst h3 <;> exact ⟨hs, rfl⟩

theorem Rl.new {k : Nat} (hd : Deaf t k = 0) (fn : FuncId) (pos : String) : Rl Sh Wg (t ++ MemOp.ofEvents k fn pos #[Go.ConcR.mk (.releaseMerge (stA Wg))]) k t.size := by
  refine ⟨RelBy.new hd fn pos, fun i a op hri hop hg ha => ?_⟩
  rcases (touch_cases ha).2 with ⟨hi, _⟩ | ⟨_, op', h1, h2, h3⟩
  · omega
  · obtain ⟨e, he, rfl⟩ := Go.Conc.mem_ofEvents h1
    simp at he
    subst he
    cases h3

/-- ALL IS TAKEN OVER. -/
theorem TI.calm (h : TI Sh Shun own n L0 Wg B t) (h0 : 0 < n) (hrel : ∀ k, L0 ≤ k → k < n → ∃ r, Rl Sh Wg t k r) (hd : Deaf t 0 = 0) (fn : FuncId) (pos : String) :
    Calm (fun l => Shun l ∨ Sh l) B (t ++ MemOp.ofEvents 0 fn pos #[Go.ConcR.mk (.acquire (stA Wg))]) := by
  have e1 : MemOp.ofEvents 0 fn pos #[Go.ConcR.mk (.acquire (stA Wg))] = #[{ g := 0, fn, pos, act := .mark (.acquire (stA Wg)) }] := by rw [ofEvents_eq]; simp [Go.ConcR.ofEvent_mk]
  rw [e1]
  generalize hy : ({ g := 0, fn, pos, act := .mark (.acquire (stA Wg)) } : MemOp) = y
  have hyg : y.g = 0 := by rw [← hy]
  have hya : y.act = .mark (.acquire (stA Wg)) := by rw [← hy]
  have hlast : (t ++ #[y])[t.size]? = some y := by simp
  have hok : ∀ op ∈ #[y], OkO Sh Shun own 0 op := fun op hop => by
    simp at hop
    subst hop
    exact ⟨hyg, fun x hx => by rw [hya] at hx; cases hx⟩
  have old : ∀ {i a}, touchAt (t ++ #[y]) i = some a → i < t.size ∧ touchAt t i = some a := fun ha => by
    rcases (touch_cases ha).2 with h1 | ⟨_, op, h1, _, h2⟩
    · exact h1
    · simp at h1
      subst h1
      rw [hya] at h2; cases h2
  have hearq : (t ++ #[y]).heard t.size := ⟨0, by simp [Trace.g?, hyg], by rw [deaf_old (Nat.le_refl _)]; exact hd⟩
  have hnr : NoRelease (stA Wg) (t ++ #[y]) := h.norel.app fun op hop => by simp at hop; subst hop; rw [hya]; simp
  have edge : ∀ {k r}, Rl Sh Wg t k r → HappensBefore (t ++ #[y]) r t.size := fun {k r} hr => by
    have hrl : r < t.size := lt_of_act? hr.rel.act
    exact .single (.inr ⟨.marked hrl (.inr (by rw [act?_old hrl]; exact hr.rel.act)) (by rw [act?_of hlast, hya]) (fun j _ _ => hnr j), (heard_old hrl).2 hr.rel.heard, hearq⟩)
  have upto : ∀ {i op k r}, t[i]? = some op → op.g = k → Rl Sh Wg t k r → i ≤ r → HappensBefore (t ++ #[y]) i t.size := by
    intro i op k r hop hg hr hle
    have hil := lt_size_of_getElem? hop
    have hrl : r < t.size := lt_of_act? hr.rel.act
    rcases Nat.lt_or_ge i r with hlt | hge
    · exact .trans (.single (.inl ⟨hlt, k, by rw [g?_old hil]; simp [Trace.g?, hop, hg], by rw [g?_old hrl]; exact hr.rel.g⟩)) (edge hr)
    · obtain rfl : i = r := by omega
      exact edge hr
  refine ⟨(h.ot.app h0 hok).nr, fun i a ha hm => ?_, fun i g hgi hne hc => ?_, fun i a ha => h.low i a (old ha).2⟩
  · obtain ⟨hi, ha'⟩ := old ha
    obtain ⟨op, hop, _⟩ := touch_of ha'
    rcases Nat.lt_or_ge op.g L0 with hl | hl
    · exact (h.known i a op hop hl ha' hm).imp (·.app _) fun x => ⟨.inl x.1, x.2⟩
    · obtain ⟨r, hr⟩ := hrel op.g hl (h.ot.gs i op hop)
      rcases Nat.lt_or_ge r i with hlt | hge
      · exact .inr ⟨.inr (hr.quiet i a op hlt hop rfl ha').1, (hr.quiet i a op hlt hop rfl ha').2⟩
      · exact .inl ⟨t.size, y, hlast, hyg, .inr (upto hop rfl hr hge)⟩
  · obtain ⟨x, hx, _⟩ := id hc
    have hi := (old (a := x) hx).1
    obtain ⟨op, hop, _⟩ := touch_of (old (a := x) hx).2
    have hg : op.g = g := by
      rw [g?_old hi] at hgi
      simpa [Trace.g?, hop] using hgi
    have hc' := (counts_old hi).1 hc
    rcases Nat.lt_or_ge g L0 with hl | hl
    · obtain ⟨j, hj, hb⟩ := h.over i g (by simp [Trace.g?, hop, hg]) hne hl hc'
      have hjl : j < t.size := by
        obtain ⟨z, hz, _⟩ := Option.map_eq_some_iff.1 hj
        exact lt_size_of_getElem? hz
      exact ⟨j, by rw [g?_old hjl]; exact hj, hb_app _ hb⟩
    · obtain ⟨r, hr⟩ := hrel g hl (by have := h.ot.gs i op hop; omega)
      have hle : i ≤ r := Nat.le_of_not_lt fun hlt => hr.rel.after i hlt (by simp [Trace.g?, hop, hg]) hc'
      exact ⟨t.size, by simp [Trace.g?, hyg], upto hop hg hr hle⟩
end

/-! ### goroutine 0 beside leavers -/
section
variable {Shun : Loc → Prop} {B B' : Nat} {t u : Trace}

theorem Calm.wide (h : Calm Shun B t) (hB : B ≤ B') : Calm Shun B' t := ⟨h.clean, h.known, h.over, fun i a ha => Loc.low_mono hB (h.low i a ha)⟩

theorem Calm.app0 (h : Calm Shun B t) (hB : B ≤ B') (hu : ∀ op ∈ u, op.g = 0) (hs : ∀ op ∈ u, ∀ b, op.act.touch? = some b → (Shun b.loc → b.kind ≠ .plain) ∧ b.loc.low B') : Calm Shun B' (t ++ u) := by
  refine ⟨fun said => noRace_append (h.clean said) hu fun i a ha op hop b hb hc => ?_, fun i a ha hm => ?_, handedOver_app h.over fun op hop => .inl (hu op hop), fun i a ha => ?_⟩
  · rcases h.known i a ha hc.2.1 with hk | ⟨hsa, hka⟩
    · exact hk
    · have hkb := (hs op hop b hb).1 (hc.1 ▸ hsa)
      obtain ⟨_, _, _, hcase⟩ := hc
      rw [hka] at hcase
      rcases hcase with x | x | ⟨_, x, _⟩
      · cases x
      · exact absurd x hkb
      · cases x
  · obtain ⟨x, hx, hxa⟩ := touch_of ha
    rcases getElem?_append_cases hx with ⟨_, hx'⟩ | ⟨_, hxu⟩
    · exact (h.known i a (by rw [touchAt_of hx']; exact hxa) hm).imp (·.app u) id
    · have := knows_own hx
      rw [hu x hxu] at this
      exact .inl this
  · rcases (touch_cases ha).2 with ⟨_, h1⟩ | ⟨_, op, h1, _, h2⟩
    · exact Loc.low_mono hB (h.low i a h1)
    · exact (hs op h1 a h2).2

theorem Calm.mute (h : Calm Shun B t) {g : Nat} (hu : ∀ op ∈ u, op.g = g) (hn : ∀ op ∈ u, op.act.touch? = none) : Calm Shun B (t ++ u) := by
  refine ⟨fun said => noRace_append (h.clean said) hu fun i a _ op hop b hb _ => (by rw [hn op hop] at hb; cases hb), fun i a ha hm => ?_, handedOver_app h.over fun op hop => .inr (hn op hop), fun i a ha => ?_⟩
  · obtain ⟨x, hx, hxa⟩ := touch_of ha
    rcases getElem?_append_cases hx with ⟨_, hx'⟩ | ⟨_, hxu⟩
    · exact (h.known i a (by rw [touchAt_of hx']; exact hxa) hm).imp (·.app u) id
    · rw [hn x hxu] at hxa; cases hxa
  · rcases (touch_cases ha).2 with ⟨_, h1⟩ | ⟨_, op, h1, _, h2⟩
    · exact h.low i a h1
    · rw [hn op h1] at h2; cases h2
end

end Go.Proofs.Ytgpplekabohneaa.Co

namespace Go.Proofs.Ytgpplekabohneaa.Co
open Go Go.Conc Go.ConcN

/-- What is owned is there, but for what it leans on. -/
structure LiesB (O : Own) (w : World) : Prop where
  B : ∀ b, O.B b → b < w.heap.size
  C : ∀ b o, O.C b o → b < w.heap.size

theorem LiesB.low {O : Own} {w : World} (h : LiesB O w) {l : Loc} (hl : OwnL O l) : l.low w.heap.size := by
  cases l with
  | cell a => exact hl.elim (h.B _) (h.C _ _)
  | obj b => exact h.B _ hl
  | _ => exact hl.elim

theorem LiesB.step {O O' : Own} {w w' : World} (h : LiesB O w) (g : Guar O O' w w') : LiesB O' w' :=
  ⟨fun b hb => (g.own b hb).elim (fun x => Nat.lt_of_lt_of_le (h.B b x) g.size) (fun x => x.2), fun b o hb => Nat.lt_of_lt_of_le (h.C b o (g.ownC b o hb)) g.size⟩
theorem LiesB.wide {O : Own} {w w₁ : World} (h : LiesB O w) (hs : w.heap.size ≤ w₁.heap.size) : LiesB O w₁ := ⟨fun b x => Nat.lt_of_lt_of_le (h.B b x) hs, fun b o x => Nat.lt_of_lt_of_le (h.C b o x) hs⟩

/-- Nothing that is shunned is owned. -/
def NoSh (Shun : Loc → Prop) (O : Own) : Prop := ∀ l, OwnL O l → ¬ Shun l

theorem NoSh.step {Shun : Loc → Prop} {O O' : Own} {w w' : World} (h : NoSh Shun O) (g : Guar O O' w w') (hl : ∀ l, Shun l → l.low w.heap.size) : NoSh Shun O' := by
  intro l hO hs
  have hlow := hl l hs
  cases l with
  | cell a =>
    rcases hO with x | x
    · rcases g.own _ x with y | ⟨y, _⟩
      · exact h (.cell a) (.inl y) hs
      · have : a.block < w.heap.size := hlow; omega
    · exact h (.cell a) (.inr (g.ownC _ _ x)) hs
  | obj b =>
    rcases g.own _ hO with y | ⟨y, _⟩
    · exact h (.obj b) y hs
    · have : b < w.heap.size := hlow; omega
  | _ => exact hO.elim

/-- U lies apart from O. -/
structure Far (U O : Own) (w : World) : Prop where
  B : ∀ b, U.B b → b < w.heap.size ∧ ¬ O.B b ∧ ∀ o, ¬ O.C b o
  C : ∀ b o, U.C b o → b < w.heap.size ∧ ¬ O.B b ∧ ¬ O.C b o
  X : ∀ b, U.X b → b < w.heap.size ∧ ¬ O.B b ∧ ∀ o, ¬ O.C b o

theorem Far.rely {U O O' : Own} {w w' : World} (h : Far U O w) (g : Guar O O' w w') : Rely U w w' := g.rely h.B h.C h.X
theorem Far.step {U O O' : Own} {w w' : World} (h : Far U O w) (g : Guar O O' w w') : Far U O' w' := by
  have key : ∀ b, b < w.heap.size → ¬ O.B b → ¬ O'.B b := fun b h1 h2 h3 => (g.own b h3).elim h2 (fun x => by omega)
  refine ⟨fun b hb => ?_, fun b o hb => ?_, fun b hb => ?_⟩
  · obtain ⟨h1, h2, h3⟩ := h.B b hb
    exact ⟨Nat.lt_of_lt_of_le h1 g.size, key b h1 h2, fun o x => h3 o (g.ownC b o x)⟩
  · obtain ⟨h1, h2, h3⟩ := h.C b o hb
    exact ⟨Nat.lt_of_lt_of_le h1 g.size, key b h1 h2, fun x => h3 (g.ownC b o x)⟩
  · obtain ⟨h1, h2, h3⟩ := h.X b hb
    exact ⟨Nat.lt_of_lt_of_le h1 g.size, key b h1 h2, fun o x => h3 o (g.ownC b o x)⟩
theorem Far.wide {U O : Own} {w w₁ : World} (h : Far U O w) (hs : w.heap.size ≤ w₁.heap.size) : Far U O w₁ :=
  ⟨fun b hb => ⟨Nat.lt_of_lt_of_le (h.B b hb).1 hs, (h.B b hb).2⟩, fun b o hb => ⟨Nat.lt_of_lt_of_le (h.C b o hb).1 hs, (h.C b o hb).2⟩, fun b hb => ⟨Nat.lt_of_lt_of_le (h.X b hb).1 hs, (h.X b hb).2⟩⟩

theorem rely_at (O : Own) (w : World) (d : Nat) : Rely O w (w.at d) := (Rely.refl O w).at d

/-- What a step may list beside leavers: not the word that Z names. -/
def EvB (Shun : Loc → Prop) (O : Own) (e : Event) : Prop := ∀ x, (MemAct.ofEvent e).touch? = some x → (Shun x.loc ∧ x.kind ≠ .plain) ∨ OwnL O x.loc

/-- The machine with goroutine 0 at x, all others leaving. -/
structure Bes (P : Program) (Shun : Loc → Prop) (x : Pos) (gs : Array Goroutine) (t : Trace) (q : Nat → Nat) : Prop where
  main : gs[0]? = some x.g
  leave : Leavers P t gs q
  calm : Calm Shun x.w.heap.size t
  deaf : Deaf t 0 = x.d
  lies : LiesB x.O x.w
  nosh : NoSh Shun x.O
  slow : ∀ l, Shun l → l.low x.w.heap.size

section
variable {P : Program} {Shun : Loc → Prop} {Ev : Own → Event → Prop} {Stop : Pos → Prop}

theorem Bes.at {x : Pos} {gs : Array Goroutine} {t : Trace} {q : Nat → Nat} (h : Bes P Shun x gs t q) {w₁ : World} (hs : x.w.heap.size ≤ w₁.heap.size) : Bes P Shun ⟨x.O, x.d, x.g, w₁⟩ gs t q :=
  ⟨h.main, h.leave, h.calm.wide hs, h.deaf, h.lies.wide hs, h.nosh, fun l hl => Loc.low_mono hs (h.slow l hl)⟩

theorem Bes.awake {x : Pos} {gs : Array Goroutine} {t : Trace} {q : Nat → Nat} (h : Bes P Shun x gs t q) (hr : x.g.status = .running) : ∀ g ∈ gs, awake g := by
  intro g hg
  obtain ⟨i, hi, rfl⟩ := Array.mem_iff_getElem.1 hg
  rcases Nat.eq_zero_or_pos i with rfl | hpos
  · have : gs[0] = x.g := by simpa [Array.getElem?_eq_getElem hi] using h.main
    rw [this]; exact awake_of (.inl hr)
  · exact awake_of ((h.leave.old i _ hpos (Array.getElem?_eq_getElem hi)).status.elim .inl fun x => .inr (.inr x))

/-- A step of goroutine 0's. -/
theorem Bes.step {x y : Pos} {gs : Array Goroutine} {t : Trace} {q : Nat → Nat} {w₁ : World} {es : Array Event} (h : Bes P Shun x gs t q) (hr : Rely x.O x.w w₁) (hg : Guar x.O y.O w₁ y.w) (he : ∀ e ∈ es, EvB Shun y.O e) (hd : y.d = deafBehind x.d es) :
    Bes P Shun y ((gs.map (woken P x.g y.g y.w)).setIfInBounds 0 y.g) (t ++ MemOp.ofEvents 0 x.g.frame.fn x.g.frame.place es) q := by
  have hlt : 0 < gs.size := (Array.getElem?_eq_some_iff.1 h.main).1
  have hs : x.w.heap.size ≤ y.w.heap.size := Nat.le_trans hr.size hg.size
  have hl1 : LiesB y.O y.w := (h.lies.wide hr.size).step hg
  refine ⟨by simp [hlt], ⟨fun j z hj hz => ?_, fun j hj => ?_⟩, h.calm.app0 hs (fun op hop => by obtain ⟨e, _, rfl⟩ := Go.Conc.mem_ofEvents hop; rfl) (fun op hop b hb => ?_), by rw [Deaf_own, h.deaf, hd], hl1, h.nosh.step hg (fun l hl => Loc.low_mono hr.size (h.slow l hl)), fun l hl => Loc.low_mono hs (h.slow l hl)⟩
  · have hne : 0 ≠ j := by omega
    rw [Array.getElem?_setIfInBounds_ne hne, Array.getElem?_map] at hz
    obtain ⟨y', hy, rfl⟩ := Option.map_eq_some_iff.1 hz
    have hq := h.leave.old j y' hj hy
    rw [woken_quitsD hq, Deaf_other t (by omega) _ (fun op hop => by obtain ⟨e, _, rfl⟩ := Go.Conc.mem_ofEvents hop; rfl)]
    exact hq
  · rw [Deaf_other t (g' := 0) (by simp at hj; omega) _ (fun op hop => by obtain ⟨e, _, rfl⟩ := Go.Conc.mem_ofEvents hop; rfl)]
    exact h.leave.above j (by simpa using hj)
  · obtain ⟨e, he', rfl⟩ := Go.Conc.mem_ofEvents hop
    rcases he e he' b hb with ⟨h1, h2⟩ | h1
    · exact ⟨fun _ => h2, Loc.low_mono hs (h.slow _ h1)⟩
    · have hn : NoSh Shun y.O := h.nosh.step hg (fun l hl => Loc.low_mono hr.size (h.slow l hl))
      exact ⟨fun hs => absurd hs (hn _ h1), hl1.low h1⟩

/-- A leaver slips. -/
theorem Bes.slip {x : Pos} {gs : Array Goroutine} {t : Trace} {q : Nat → Nat} {d i k : Nat} {g g' : Goroutine} {es : Array Event} (h : Bes P Shun x gs t q) (hrun : x.g.status = .running) (hpos : 0 < i) (hi : gs[i]? = some g)
    (hm : ∀ e ∈ es, Event.mute e = true) (hq' : QuitsD P k (deafBehind (Deaf t i) es) g') :
    Bes P Shun ⟨x.O, x.d, x.g, x.w.at d⟩ ((gs.map (woken P g g' (x.w.at d))).setIfInBounds i g') (t ++ MemOp.ofEvents i g.frame.fn g.frame.place es) (upd q i k) := by
  have hlt : i < gs.size := (Array.getElem?_eq_some_iff.1 hi).1
  refine ⟨?_, ⟨fun j z hj hz => ?_, fun j hj => ?_⟩, h.calm.mute (g := i) (fun op hop => by obtain ⟨e, _, rfl⟩ := Go.Conc.mem_ofEvents hop; rfl) (fun op hop => by obtain ⟨e, he, rfl⟩ := Go.Conc.mem_ofEvents hop; exact touch_mute (hm e he)), ?_, ⟨h.lies.B, h.lies.C⟩, h.nosh, h.slow⟩
  · have hne : i ≠ 0 := by omega
    rw [Array.getElem?_setIfInBounds_ne hne, Array.getElem?_map, h.main]
    simp [woken_run hrun]
  · by_cases hji : i = j
    · subst hji
      rw [Array.getElem?_setIfInBounds_self_of_lt (by simpa using hlt)] at hz
      obtain rfl := Option.some.inj hz
      rw [upd_same, Deaf_own]
      exact hq'
    · rw [Array.getElem?_setIfInBounds_ne hji, Array.getElem?_map] at hz
      obtain ⟨y, hy, rfl⟩ := Option.map_eq_some_iff.1 hz
      have hqj := h.leave.old j y hj hy
      rw [woken_quitsD hqj, upd_ne q k (Ne.symm hji), Deaf_other t hji _ (fun op hop => by obtain ⟨e, _, rfl⟩ := Go.Conc.mem_ofEvents hop; rfl)]
      exact hqj
  · rw [Deaf_other t (g' := i) (by simp at hj; omega) _ (fun op hop => by obtain ⟨e, _, rfl⟩ := Go.Conc.mem_ofEvents hop; rfl)]
    exact h.leave.above j (by simpa using hj)
  · rw [Deaf_other t (g' := i) (by omega) _ (fun op hop => by obtain ⟨e, _, rfl⟩ := Go.Conc.mem_ofEvents hop; rfl)]
    exact h.deaf

/-- A leaver's operations. -/
def MuteOps (n : Nat) (ops : Array MemOp) : Prop := ∃ i fn pos es, ops = MemOp.ofEvents i fn pos es ∧ 0 < i ∧ i < n ∧ ∀ e ∈ es, Event.mute e = true

/-- Who moves beside leavers: goroutine 0, or a leaver slips. -/
theorem Bes.pick {x : Pos} {gs : Array Goroutine} {t : Trace} {q : Nat → Nat} (sl : Option (Nat × Nat)) (h : Bes P Shun x gs t q) (hrun : x.g.status = .running) :
    ∃ d sl', stepT P (crowd gs x.w sl) = runT P (crowd gs (x.w.at d) sl') 0 ∨
      ∃ gs' ops q', stepT P (crowd gs x.w sl) = (.next (crowd gs' (x.w.at d) sl'), ops) ∧ Bes P Shun ⟨x.O, x.d, x.g, x.w.at d⟩ gs' (t ++ ops) q' ∧ sumTo gs'.size q' < sumTo gs.size q ∧ gs'.size = gs.size ∧ MuteOps gs.size ops := by
  obtain ⟨i, g, d, sl', hi, hg, hst⟩ := crowd_pick (P := P) (w := x.w) (sl := sl) (h.awake hrun) ⟨0, x.g, h.main, hrun⟩
  refine ⟨d, sl', ?_⟩
  rcases Nat.eq_zero_or_pos i with rfl | hpos
  · exact .inl hst
  · have hq := h.leave.old i g hpos hi
    have hi0 : (i == 0) = false := by simp; omega
    have hlt : i < gs.size := (Array.getElem?_eq_some_iff.1 hi).1
    cases hqi : q i with
    | zero => rw [hqi] at hq; rw [hq.1] at hg; cases hg
    | succ k =>
      rw [hqi] at hq
      rcases hq with ⟨hf, _⟩ | ⟨_, g', es, hm, hstp, hq'⟩
      · rw [hf] at hg; cases hg
      have hrunT := runT_crowd_go (P := P) (sl := sl') (i := i) hi (by rw [hi0]; exact hstp (x.w.at d))
      have hsum : sumTo gs.size (upd q i k) + (k + 1) = sumTo gs.size q + k := by
        have := sumTo_upd q k id hlt
        simpa [hqi] using this
      have hsz : ((gs.map (woken P g g' (x.w.at d))).setIfInBounds i g').size = gs.size := by simp
      exact .inr ⟨_, _, upd q i k, hst.trans hrunT, h.slip hrun hpos hi hm hq', by rw [hsz]; omega, hsz, i, _, _, es, rfl, hpos, hlt, hm⟩

/-- What the machine comes to. -/
def Reaches (P : Program) (m : Machine) (t : Trace) (Q : Machine → Trace → Prop) : Prop := ∃ N m' t', runNT P N m t = (.next m', t') ∧ Q m' t'

theorem Reaches.here {m : Machine} {t : Trace} {Q : Machine → Trace → Prop} (h : Q m t) : Reaches P m t Q := ⟨0, m, t, rfl, h⟩
theorem Reaches.step {m m' : Machine} {t : Trace} {ops : Array MemOp} {Q : Machine → Trace → Prop} (h : stepT P m = (.next m', ops)) (hr : Reaches P m' (t ++ ops) Q) : Reaches P m t Q := by
  obtain ⟨N, m'', t', h1, h2⟩ := hr
  exact ⟨N + 1, m'', t', by rw [runNT_succ_next h]; exact h1, h2⟩
theorem Reaches.bind {m : Machine} {t : Trace} {Q Q' : Machine → Trace → Prop} (h : Reaches P m t Q) (hq : ∀ m' t', Q m' t' → Reaches P m' t' Q') : Reaches P m t Q' := by
  obtain ⟨N, m', t', h1, h2⟩ := h
  obtain ⟨N', m'', t'', h3, h4⟩ := hq m' t' h2
  exact ⟨N + N', m'', t'', by rw [runNT_add, h1]; exact h3, h4⟩

/-- From where goroutine 0 stands at a stop. -/
def AtB (P : Program) (Shun : Loc → Prop) (Tp : Trace → Prop) (Stop : Pos → Prop) (x : Pos) (n : Nat) (m : Machine) (t : Trace) : Prop :=
  ∃ y gs sl q, m = crowd gs y.w sl ∧ gs.size = n ∧ Bes P Shun y gs t q ∧ Stop y ∧ Tp t ∧ ∀ U, Far U x.O x.w → Far U y.O y.w ∧ Rely U x.w y.w

/-- GOROUTINE 0's RUN, BESIDE LEAVERS. -/
theorem run_beside {Tp : Trace → Prop} {n : Nat} (hEv : ∀ O e, Ev O e → EvB Shun O e) (hT0 : ∀ t fn pos es O, Tp t → (∀ e ∈ es, Ev O e) → Tp (t ++ MemOp.ofEvents 0 fn pos es)) (hTm : ∀ t ops, Tp t → MuteOps n ops → Tp (t ++ ops)) {x : Pos} (h : Run P true Ev Stop x) : ∀ {gs : Array Goroutine} {sl : Option (Nat × Nat)} {t : Trace} {q : Nat → Nat}, gs.size = n → Tp t → Bes P Shun x gs t q → Reaches P (crowd gs x.w sl) t (AtB P Shun Tp Stop x gs.size) := by
  induction h using Run.ind with
  | @stop x h =>
    intro gs sl t q _ hT hb
    exact .here ⟨x, gs, sl, q, rfl, rfl, hb, h x.w (Rely.refl _ _), hT, fun U hU => ⟨hU, Rely.refl _ _⟩⟩
  | @step x next hs h1 h2 ih =>
    have inner : ∀ M (w : World) (gs : Array Goroutine) (sl : Option (Nat × Nat)) (t : Trace) (q : Nat → Nat), sumTo gs.size q ≤ M → gs.size = n → Tp t → (∃ d, w = x.w.at d) → Bes P Shun ⟨x.O, x.d, x.g, w⟩ gs t q → Reaches P (crowd gs w sl) t (AtB P Shun Tp Stop x gs.size) := by
      intro M
      induction M with
      | zero =>
        rintro w gs sl t q hM hn hT ⟨d0, rfl⟩ hb
        obtain ⟨d, sl', hp | ⟨gs', ops, q', hp, hb', hlt, hsz, hmu⟩⟩ := hb.pick sl hs
        · obtain ⟨es, e1, e2, e3, e4⟩ := (h1 _ (rely_at x.O x.w d)).out
          have hrunT := runT_crowd_go (P := P) (sl := sl') (i := 0) hb.main (show stepG P (0 == 0) x.g (x.w.at d) = _ from e1)
          refine .step (hp.trans hrunT) ?_
          have hb2 : Bes P Shun ⟨x.O, x.d, x.g, x.w⟩ gs t q := hb.at (Nat.le_refl _)
          have hb3 := hb2.step (y := next (x.w.at d)) (rely_at x.O x.w d) e2 (fun e he => hEv _ e (e3 e he)) e4
          have := ih (x.w.at d) (rely_at _ _ _) (sl := sl') (by simpa using hn) (hT0 _ _ _ _ _ hT e3) hb3
          refine this.bind ?_
          rintro m' t' ⟨y, gs2, sl2, q2, f1, f2, f3, f4, f4', f5⟩
          refine .here ⟨y, gs2, sl2, q2, f1, f2.trans (by simp), f3, f4, f4', fun U hU => ?_⟩
          have hU1 : Far U x.O (x.w.at d) := hU.wide (Nat.le_refl _)
          obtain ⟨g1, g2⟩ := f5 U (hU1.step e2)
          exact ⟨g1, (rely_at U x.w d).trans ((hU1.rely e2).trans g2)⟩
        · omega
      | succ M ihM =>
        rintro w gs sl t q hM hn hT ⟨d0, rfl⟩ hb
        obtain ⟨d, sl', hp | ⟨gs', ops, q', hp, hb', hlt, hsz, hmu⟩⟩ := hb.pick sl hs
        · obtain ⟨es, e1, e2, e3, e4⟩ := (h1 _ (rely_at x.O x.w d)).out
          have hrunT := runT_crowd_go (P := P) (sl := sl') (i := 0) hb.main (show stepG P (0 == 0) x.g (x.w.at d) = _ from e1)
          refine .step (hp.trans hrunT) ?_
          have hb2 : Bes P Shun ⟨x.O, x.d, x.g, x.w⟩ gs t q := hb.at (Nat.le_refl _)
          have hb3 := hb2.step (y := next (x.w.at d)) (rely_at x.O x.w d) e2 (fun e he => hEv _ e (e3 e he)) e4
          have := ih (x.w.at d) (rely_at _ _ _) (sl := sl') (by simpa using hn) (hT0 _ _ _ _ _ hT e3) hb3
          refine this.bind ?_
          rintro m' t' ⟨y, gs2, sl2, q2, f1, f2, f3, f4, f4', f5⟩
          refine .here ⟨y, gs2, sl2, q2, f1, f2.trans (by simp), f3, f4, f4', fun U hU => ?_⟩
          have hU1 : Far U x.O (x.w.at d) := hU.wide (Nat.le_refl _)
          obtain ⟨g1, g2⟩ := f5 U (hU1.step e2)
          exact ⟨g1, (rely_at U x.w d).trans ((hU1.rely e2).trans g2)⟩
        · refine .step hp ?_
          have := ihM _ gs' sl' (t ++ ops) q' (by omega) (hsz.trans hn) (hTm _ _ hT (hn ▸ hmu)) ⟨d, rfl⟩ hb'
          rw [hsz] at this
          exact this
    intro gs sl t q hn hT hb
    exact inner _ x.w gs sl t q (Nat.le_refl _) hn hT ⟨x.w.drawn, rfl⟩ hb

/-- Goroutine 0 stands at the step that ends the run. -/
def AtEndP (P : Program) (Ev : Own → Event → Prop) (Post : Value → World → Prop) (x : Pos) : Prop :=
  x.g.status = .running ∧ ∀ d, ∃ v es, stepG P true x.g (x.w.at d) = .ended (.done v) (x.w.at d) es ∧ (∀ e ∈ es, Ev x.O e) ∧ Post v (x.w.at d)

/-- THE RETURN, BESIDE LEAVERS. -/
theorem ends_beside (hEv : ∀ O e, Ev O e → EvB Shun O e) {Post : Value → World → Prop} : ∀ (M : Nat) {x : Pos} {gs : Array Goroutine} {sl : Option (Nat × Nat)} {t : Trace} {q : Nat → Nat}, sumTo gs.size q ≤ M → Bes P Shun x gs t q → AtEndP P Ev Post x →
    ∃ N last o w' t', runNT P (N + 1) (crowd gs x.w sl) t = (.ended o w', t') ∧ runN P N (crowd gs x.w sl) = .next last ∧ Go.step P last = .ended o w' ∧ Conc.Good P Post last o w' t' := by
  intro M
  induction M with
  | zero =>
    intro x gs sl t q hM hb ha
    obtain ⟨d, sl', hp | ⟨gs', ops, q', hp, hb', hlt, hsz, _⟩⟩ := hb.pick sl ha.1
    · obtain ⟨v, es, hend, hes, hpost⟩ := ha.2 d
      have hrunT := runT_many_ended (P := P) (sl := sl') (i := 0) hb.main (show stepG P (0 == 0) x.g (x.w.at d) = _ from hend)
      have hs := hp.trans hrunT
      have hc := hb.calm.app0 (u := MemOp.ofEvents 0 x.g.frame.fn x.g.frame.place es) (Nat.le_refl _) (fun op hop => by obtain ⟨e, _, rfl⟩ := Go.Conc.mem_ofEvents hop; rfl) (fun op hop b hb' => by
        obtain ⟨e, he', rfl⟩ := Go.Conc.mem_ofEvents hop
        rcases hEv _ e (hes e he') b hb' with ⟨h1, h2⟩ | h1
        · exact ⟨fun _ => h2, hb.slow _ h1⟩
        · exact ⟨fun hs => absurd hs (hb.nosh _ h1), hb.lies.low h1⟩)
      refine ⟨0, _, _, _, _, by simp [runNT, hs], rfl, by simp [Go.step, hs], v, rfl, hpost, hc.clean, hc.over, ⟨fun z hz => ?_, rfl⟩, fun j z hz hj => ?_⟩
      · obtain ⟨j, hj⟩ := List.mem_iff_getElem?.1 hz
        rw [List.getElem?_drop] at hj
        exact ⟨_, (hb.leave.old (1 + j) z (by omega) (by simpa [crowd] using hj)).leaves⟩
      · have hq := hb.leave.old j z (by omega) hz
        refine ⟨q j, ?_⟩
        have e : (t ++ MemOp.ofEvents 0 x.g.frame.fn x.g.frame.place es).deaf j (t ++ MemOp.ofEvents 0 x.g.frame.fn x.g.frame.place es).size = Deaf t j :=
          Deaf_other t (g := j) (g' := 0) (by omega) _ (fun op hop => by obtain ⟨e, _, rfl⟩ := Go.Conc.mem_ofEvents hop; rfl)
        rw [e]
        exact hq.hears _
    · omega
  | succ M ih =>
    intro x gs sl t q hM hb ha
    obtain ⟨d, sl', hp | ⟨gs', ops, q', hp, hb', hlt, hsz, _⟩⟩ := hb.pick sl ha.1
    · obtain ⟨v, es, hend, hes, hpost⟩ := ha.2 d
      have hrunT := runT_many_ended (P := P) (sl := sl') (i := 0) hb.main (show stepG P (0 == 0) x.g (x.w.at d) = _ from hend)
      have hs := hp.trans hrunT
      have hc := hb.calm.app0 (u := MemOp.ofEvents 0 x.g.frame.fn x.g.frame.place es) (Nat.le_refl _) (fun op hop => by obtain ⟨e, _, rfl⟩ := Go.Conc.mem_ofEvents hop; rfl) (fun op hop b hb' => by
        obtain ⟨e, he', rfl⟩ := Go.Conc.mem_ofEvents hop
        rcases hEv _ e (hes e he') b hb' with ⟨h1, h2⟩ | h1
        · exact ⟨fun _ => h2, hb.slow _ h1⟩
        · exact ⟨fun hs => absurd hs (hb.nosh _ h1), hb.lies.low h1⟩)
      refine ⟨0, _, _, _, _, by simp [runNT, hs], rfl, by simp [Go.step, hs], v, rfl, hpost, hc.clean, hc.over, ⟨fun z hz => ?_, rfl⟩, fun j z hz hj => ?_⟩
      · obtain ⟨j, hj⟩ := List.mem_iff_getElem?.1 hz
        rw [List.getElem?_drop] at hj
        exact ⟨_, (hb.leave.old (1 + j) z (by omega) (by simpa [crowd] using hj)).leaves⟩
      · have hq := hb.leave.old j z (by omega) hz
        refine ⟨q j, ?_⟩
        have e : (t ++ MemOp.ofEvents 0 x.g.frame.fn x.g.frame.place es).deaf j (t ++ MemOp.ofEvents 0 x.g.frame.fn x.g.frame.place es).size = Deaf t j :=
          Deaf_other t (g := j) (g' := 0) (by omega) _ (fun op hop => by obtain ⟨e, _, rfl⟩ := Go.Conc.mem_ofEvents hop; rfl)
        rw [e]
        exact hq.hears _
    · have ha' : AtEndP P Ev Post ⟨x.O, x.d, x.g, x.w.at d⟩ := ⟨ha.1, fun d' => ha.2 d'⟩
      obtain ⟨N, last, o, w', t', h1, h2, h3, h4⟩ := ih (x := ⟨x.O, x.d, x.g, x.w.at d⟩) (sl := sl') (by omega) hb' ha'
      exact ⟨N + 1, last, o, w', t', by rw [runNT_succ_next hp]; exact h1, by rw [runN_succ_next hp]; exact h2, h3, h4⟩
end

end Go.Proofs.Ytgpplekabohneaa.Co

namespace Go.Proofs.Ytgpplekabohneaa.Co
open Go Go.Conc Go.ConcN

/-- All that is there, but for K. -/
def allO (K : Nat → Prop) (w : World) : Own := ⟨fun b => b < w.heap.size ∧ ¬ K b, fun _ _ => False, fun _ => False⟩

/-- What is shunned lies in K. -/
def ShunIn (Shun : Loc → Prop) (K : Nat → Prop) : Prop := (∀ a, Shun (.cell a) → K a.block) ∧ ∀ b, Shun (.obj b) → K b

section
variable {P : Program} {Shun : Loc → Prop} {K D : Nat → Prop} {F : FuncId → Prop}

theorem allO_lies (w : World) : LiesB (allO K w) w := ⟨fun _ h => h.1, fun _ _ h => h.elim⟩
theorem allO_nosh (h : ShunIn Shun K) (w : World) : NoSh Shun (allO K w) := by
  intro l hl hs
  cases l with
  | cell a => exact hl.elim (fun x => x.2 (h.1 a hs)) id
  | obj b => exact hl.2 (h.2 b hs)
  | _ => exact hl.elim

theorem EvN.evB {w : World} {e : Event} (h : EvN K w.heap.size e) : EvB Shun (allO K w) e := by
  intro x hx
  obtain ⟨loc, wr, sy⟩ := e
  cases loc with
  | cell a =>
    simp only [MemAct.ofEvent, MemAct.touch?, Option.some.injEq] at hx
    subst hx
    exact .inr (.inl ⟨h.1.2, h.1.1⟩)
  | obj b =>
    have hw : ¬ (wr = true ∧ sy = true) := fun hh => by have := h.2 hh.1; simp [hh.2] at this
    cases wr <;> cases sy <;> first | exact absurd ⟨rfl, rfl⟩ hw | (simp only [MemAct.ofEvent, MemAct.touch?, Option.some.injEq] at hx; subst hx; exact .inr ⟨h.1.2, h.1.1⟩)
  | mark m =>
    cases m with
    | noRoom => simp [MemAct.ofEvent, MemAct.touch?] at hx
    | _ => exact h.elim
  | _ => exact h.elim

theorem Bes.move {x y : Pos} {gs : Array Goroutine} {t : Trace} {q : Nat → Nat} {es : Array Event} (h : Bes P Shun x gs t q) (hs : x.w.heap.size ≤ y.w.heap.size) (hl1 : LiesB y.O y.w) (hn : NoSh Shun y.O) (he : ∀ e ∈ es, EvB Shun y.O e) (hd : y.d = deafBehind x.d es) :
    Bes P Shun y ((gs.map (woken P x.g y.g y.w)).setIfInBounds 0 y.g) (t ++ MemOp.ofEvents 0 x.g.frame.fn x.g.frame.place es) q := by
  have hlt : 0 < gs.size := (Array.getElem?_eq_some_iff.1 h.main).1
  refine ⟨by simp [hlt], ⟨fun j z hj hz => ?_, fun j hj => ?_⟩, h.calm.app0 hs (fun op hop => by obtain ⟨e, _, rfl⟩ := Go.Conc.mem_ofEvents hop; rfl) (fun op hop b hb => ?_), by rw [Deaf_own, h.deaf, hd], hl1, hn, fun l hl => Loc.low_mono hs (h.slow l hl)⟩
  · have hne : 0 ≠ j := by omega
    rw [Array.getElem?_setIfInBounds_ne hne, Array.getElem?_map] at hz
    obtain ⟨y', hy, rfl⟩ := Option.map_eq_some_iff.1 hz
    have hq := h.leave.old j y' hj hy
    rw [woken_quitsD hq, Deaf_other t (by omega) _ (fun op hop => by obtain ⟨e, _, rfl⟩ := Go.Conc.mem_ofEvents hop; rfl)]
    exact hq
  · rw [Deaf_other t (g' := 0) (by simp at hj; omega) _ (fun op hop => by obtain ⟨e, _, rfl⟩ := Go.Conc.mem_ofEvents hop; rfl)]
    exact h.leave.above j (by simpa using hj)
  · obtain ⟨e, he', rfl⟩ := Go.Conc.mem_ofEvents hop
    rcases he e he' b hb with ⟨h1, h2⟩ | h1
    · exact ⟨fun _ => h2, Loc.low_mono hs (h.slow _ h1)⟩
    · exact ⟨fun hs => absurd hs (hn _ h1), hl1.low h1⟩

end
end Go.Proofs.Ytgpplekabohneaa.Co
