/- The machine of a batch: its invariant, and what keeps it. · The machine of a batch: the measure; the starter's steps. · The machine of a batch: the starter at its stops, behind its script. -/
import Derived.Test.YtgpplekabohneaaYas
namespace Go.Proofs.Ytgpplekabohneaa.Co
open Go Go.Conc Go.ConcN
open Go.ConcR (KK WgAt stA smA rd wr)
open Classical

def counted : WK → Bool
  | some (some (some (some (some (some _))))) | none | some none => true
  | _ => false
def released : WK → Bool
  | some (some (some (some (some (some _))))) | none => false
  | _ => true
def cw (D : WD) : Nat := if counted D.k then 1 else 0
def cnt (n : Nat) (D : Nat → WD) : Nat := sumTo n fun k => cw (D k)

def shutB : MK → Nat → Bool
  | some (some (some (.inl _))), _ => false
  | some (some (some (.inr (.inl (_, op))))), c => !(op.contains c)
  | _, _ => true
def valsM : MK → Nat → List Value
  | some (some (some (.inl s))), k => valsOf k s
  | _, _ => []
def goesM : MK → Nat
  | some (some (some (.inl s))) => goes s
  | _ => 0
def FbM (Wg : Nat) (chs : List Nat) : MK → Nat → Prop
  | some (some (some (.inl _))), b => b ∈ chs
  | _, b => b ∈ chs ∨ b = Wg
def Act (L0 n i : Nat) : Prop := i = 0 ∨ (L0 ≤ i ∧ i < L0 + n)
def ShutOk (chs : List Nat) : MK → Prop
  | some (some (some (.inr (.inl (n, op))))) => op.length = n ∧ (∀ c ∈ op, c ∈ chs) ∧ op.Nodup ∧ 0 < n
  | _ => True

/-- How the group's cells hang on where everybody stands. -/
def Mode (Wg n : Nat) (D : Nat → WD) (w : World) (run0 : Prop) : MK → Prop
  | some (some (some (.inl _))) => True
  | some (some (some (.inr (.inl (_, _))))) => WgAt 125 Wg w ((cnt n D : Int) * KK) 0 ∧ ∀ k, k < n → counted (D k).k = true ∨ (D k).k = .quit
  | some (some (some (.inr (.inr (.inl N))))) => cnt n D ≤ N ∧ WgAt 125 Wg w ((cnt n D : Int) * KK) 0 ∧ ∀ k, k < n → counted (D k).k = true ∨ (D k).k = .quit
  | some (some (some (.inr (.inr (.inr (m, N)))))) => (1 ≤ m ∧ m ≤ N + 1 ∧ cnt n D ≤ m) ∧ WgAt 125 Wg w ((cnt n D : Int) * KK) 0 ∧ ∀ k, k < n → counted (D k).k = true ∨ (D k).k = .quit
  | none => (1 ≤ cnt n D ∧ WgAt 125 Wg w ((cnt n D : Int) * KK + 1) 0 ∧ ∀ k, k < n → counted (D k).k = true ∨ (D k).k = .quit) ∨
      (∃ j, j < n ∧ (∀ k, k < n → k ≠ j → (D k).k = .quit) ∧ (((D j).k = .d2 ∨ (D j).k = .d3) ∧ WgAt 125 Wg w 1 0 ∨ (D j).k = .d4 ∧ WgAt 125 Wg w 0 0)) ∨
      ((∀ k, k < n → (D k).k = .quit) ∧ WgAt 125 Wg w 0 1 ∧ run0)
  | some none => (∀ k, k < n → (D k).k = .quit) ∧ WgAt 125 Wg w 0 0
  | some (some none) => ∀ k, k < n → (D k).k = .quit

section defs
variable (P : Program) (Wg : Nat) (z : Value) (Q : Nat → Own → World → Prop) (Next : Pos → Prop) (Shun : Loc → Prop) (L0 : Nat)

structure Inv (gs : Array Goroutine) (w : World) (t : Trace) (chs : List Nat) (M : MK) (TM : Tree) (D : Nat → WD) (Ow : Nat → Own) (own : Loc → Nat) (q0 : Nat → Nat) : Prop where
  l0 : 0 < L0
  size : gs.size = L0 + chs.length
  main : ∃ a, gs[0]? = some a ∧ MSit P Wg z Q Next chs M TM (Ow 0) (Deaf t 0) w a
  wk : ∀ k c, chs[k]? = some c → ∃ g, gs[L0 + k]? = some g ∧ WSit P Wg z (Q k) c (D k) (Ow (L0 + k)) (Deaf t (L0 + k)) w g
  old : ∀ i g, 0 < i → i < L0 → gs[i]? = some g → QuitsD P (q0 i) (Deaf t i) g
  above : ∀ j, gs.size ≤ j → Deaf t j = 0
  ti : TI (ShN Wg) Shun own gs.size L0 Wg w.heap.size t
  rl : ∀ k, k < chs.length → released (D k).k = true → Rl (ShN Wg) Wg t (L0 + k) (D k).r
  ow : Owners (ShN Wg) Shun (Act L0 chs.length) Ow (FbM Wg chs M) own w.heap.size
  cho : ∀ c ∈ chs, own (.obj c) = 0 ∧ ¬ Shun (.obj c)
  nw : ∀ k, k < chs.length → ¬ (Ow (L0 + k)).B Wg ∧ ∀ o, ¬ (Ow (L0 + k)).C Wg o
  wgl : Wg < w.heap.size
  nwc : Wg ∉ chs
  nd : chs.Nodup
  ch : ∀ c ∈ chs, ∃ s, w.heap[c]? = some (.chan 0 #[] (shutB M c) s s false)
  par : ∀ k c g, chs[k]? = some c → gs[L0 + k]? = some g → g.status = .blocked → shutB M c = false
  both : ∀ k v s' a g, M = .script (.send k v :: s') → gs[0]? = some a → a.status = .blocked → gs[L0 + k]? = some g → g.status ≠ .blocked
  rcv : ∀ k c, chs[k]? = some c → (∀ l, (D k).k = .recv l → l = valsM M k) ∧ (shutB M c = false → ∃ l, (D k).k = .recv l)
  mode : Mode Wg chs.length D w (∃ a, gs[0]? = some a ∧ a.status = .running) M
  len : chs.length + goesM M < 2147483647
  sok : ShutOk chs M
end defs

theorem lt_chs {chs : List Nat} {k c : Nat} (h : chs[k]? = some c) : k < chs.length := (List.getElem?_eq_some_iff.1 h).1
theorem mem_chs {chs : List Nat} {k c : Nat} (h : chs[k]? = some c) : c ∈ chs := List.mem_of_getElem? h
theorem get_chs {chs : List Nat} {k : Nat} (h : k < chs.length) : ∃ c, chs[k]? = some c := ⟨chs[k], List.getElem?_eq_getElem h⟩

theorem woken_or (P : Program) (x x' : Goroutine) (w : World) (g : Goroutine) : woken P x x' w g = g ∨ (woken P x x' w g).status = .running := by
  unfold woken
  split
  · unfold Goroutine.again
    split
    · dsimp only
      split
      · exact .inr rfl
      · exact .inl rfl
    · exact .inr rfl
    · exact .inr rfl
    · exact .inl rfl
  · exact .inl rfl

theorem woken_blocked {P : Program} {x x' g : Goroutine} {w : World} (h : (woken P x x' w g).status = .blocked) : g.status = .blocked := by
  rcases woken_or P x x' w g with e | e
  · rw [e] at h; exact h
  · rw [e] at h; cases h

section
variable {P : Program} {gs : Array Goroutine} {x x' : Goroutine} {w' : World} {i j : Nat}
theorem get_ne (h : j ≠ i) : ((gs.map (woken P x x' w')).setIfInBounds i x')[j]? = (gs[j]?).map (woken P x x' w') := by
  rw [Array.getElem?_setIfInBounds_ne (Ne.symm h), Array.getElem?_map]
theorem get_eq (h : i < gs.size) : ((gs.map (woken P x x' w')).setIfInBounds i x')[i]? = some x' := by
  rw [Array.getElem?_setIfInBounds_self_of_lt (by simpa using h)]
end

theorem ops_g {g : Nat} {fn : FuncId} {pos : String} {es : Array Event} : ∀ op ∈ MemOp.ofEvents g fn pos es, op.g = g := fun op hop => by
  obtain ⟨e, _, rfl⟩ := Go.Conc.mem_ofEvents hop; rfl

theorem ops_rel {Wg g : Nat} {fn : FuncId} {pos : String} {es : Array Event} (h : ∀ e ∈ es, e.loc ≠ .mark (.release (stA Wg))) : ∀ op ∈ MemOp.ofEvents g fn pos es, op.act ≠ .mark (.release (stA Wg)) := fun op hop e => by
  obtain ⟨x, hx, rfl⟩ := Go.Conc.mem_ofEvents hop
  exact h x hx (Go.ConcR.loc_of_ofEvent e)

theorem shn_low {Wg B : Nat} (h : Wg < B) {l : Loc} (hl : ShN Wg l) : l.low B := by
  obtain ⟨a, rfl, ha⟩ := hl
  show a.block < B
  rw [ha]; exact h

section
variable {P : Program} {Wg : Nat} {z : Value} {Q : Nat → Own → World → Prop} {Next : Pos → Prop} {Shun : Loc → Prop} {L0 : Nat}
  {gs : Array Goroutine} {w : World} {t : Trace} {chs : List Nat} {M : MK} {TM : Tree} {D : Nat → WD} {Ow : Nat → Own} {own : Loc → Nat} {q0 : Nat → Nat}

theorem act0 (n : Nat) : Act L0 n 0 := .inl rfl
theorem actk {n k : Nat} (h : k < n) : Act L0 n (L0 + k) := .inr ⟨Nat.le_add_right _ _, by omega⟩

/-- A STEP OF THE STARTER's. -/
theorem Inv.stepM (hQ : ∀ k, Steady (Q k) Wg) (h : Inv P Wg z Q Next Shun L0 gs w t chs M TM D Ow own q0) {a a' : Goroutine} {w' : World} {es : Array Event} {O' : Own} {M' : MK} {TM' : Tree} (ha : gs[0]? = some a)
    (hsz : w.heap.size ≤ w'.heap.size) (hg : Grows (Ow 0) O' w.heap.size w'.heap.size) (hX : ∀ b, O'.X b → FbM Wg chs M b) (hF : FbM Wg chs M' = FbM Wg chs M) (hRe : ∀ k, k < chs.length → Rely (Ow (L0 + k)) w w')
    (hes : ∀ e ∈ es, (∀ x, (MemAct.ofEvent e).touch? = some x → (ShN Wg x.loc ∧ x.kind ≠ .plain) ∨ (¬ ShN Wg x.loc ∧ (OwnL O' x.loc ∨ ∃ c ∈ chs, x.loc = .obj c))) ∧ e.loc ≠ .mark (.release (stA Wg)))
    (hm : MSit P Wg z Q Next chs M' TM' O' (deafBehind (Deaf t 0) es) w' a') (hch : ∀ c ∈ chs, ∃ s, w'.heap[c]? = some (.chan 0 #[] (shutB M' c) s s false))
    (hpar : ∀ k c g, chs[k]? = some c → gs[L0 + k]? = some g → (woken P a a' w' g).status = .blocked → shutB M' c = false) (hboth : ∀ k v s', M' = .script (.send k v :: s') → a'.status = .running)
    (hrcv : ∀ k c, chs[k]? = some c → (∀ l, (D k).k = .recv l → l = valsM M' k) ∧ (shutB M' c = false → ∃ l, (D k).k = .recv l)) (hmode : Mode Wg chs.length D w' (∃ b, some a' = some b ∧ b.status = .running) M') (hlen : chs.length + goesM M' < 2147483647) (hso : ShutOk chs M') :
    Inv P Wg z Q Next Shun L0 ((gs.map (woken P a a' w')).setIfInBounds 0 a') w' (t ++ MemOp.ofEvents 0 a.frame.fn a.frame.place es) chs M' TM' D (upd Ow 0 O') (ownUp own w.heap.size 0) q0 := by
  have hlt : 0 < gs.size := (Array.getElem?_eq_some_iff.1 ha).1
  have l0 := h.l0
  have e0 : ((gs.map (woken P a a' w')).setIfInBounds 0 a')[0]? = some a' := get_eq hlt
  have es0 : ((gs.map (woken P a a' w')).setIfInBounds 0 a').size = gs.size := by simp
  have how : Owners (ShN Wg) Shun (Act L0 chs.length) (upd Ow 0 O') (FbM Wg chs M) (ownUp own w.heap.size 0) w'.heap.size := h.ow.step (act0 _) hg hsz hX
  have eO : upd Ow 0 O' 0 = O' := upd_same _ _ _
  have eK : ∀ k, upd Ow 0 O' (L0 + k) = Ow (L0 + k) := fun k => upd_ne _ _ (by omega)
  have dk : ∀ k, k ≠ 0 → Deaf (t ++ MemOp.ofEvents 0 a.frame.fn a.frame.place es) k = Deaf t k := fun k hk => Deaf_other t (Ne.symm hk) _ ops_g
  have clow : ∀ c ∈ chs, (Loc.obj c).low w.heap.size := fun c hc => by
    obtain ⟨s, hs⟩ := h.ch c hc
    exact (Array.getElem?_eq_some_iff.1 hs).1
  refine ⟨l0, es0.trans h.size, ⟨a', e0, by rw [eO, Deaf_own]; exact hm⟩, fun k c hc => ?_, fun i g hi hl hg => ?_, fun j hj => ?_, ?_, fun k hk hr => (h.rl k hk hr).other fun op hop e => ?_, hF ▸ how, fun c hc => ⟨?_, (h.cho c hc).2⟩, fun k hk => by rw [eK]; exact h.nw k hk, Nat.lt_of_lt_of_le h.wgl hsz, h.nwc, h.nd, hch, fun k c g hc hg hb => ?_, fun k v s' b g e1 e2 e3 _ => ?_, hrcv, ?_, hlen, hso⟩
  · obtain ⟨g, h1, h2⟩ := h.wk k c hc
    refine ⟨woken P a a' w' g, by rw [get_ne (by omega), h1]; rfl, ?_⟩
    rw [eK, dk _ (by omega)]
    exact (h2.rely (hQ k) (hRe k (lt_chs hc))).woken _ _ _
  · rw [get_ne (by omega)] at hg
    obtain ⟨y, hy, rfl⟩ := Option.map_eq_some_iff.1 hg
    have hq := h.old i y hi hl hy
    rw [woken_quitsD hq, dk i (by omega)]
    exact hq
  · rw [dk j (by rw [es0] at hj; omega)]
    exact h.above j (by rw [es0] at hj; exact hj)
  · have ht := h.ti.reown (ownUp own w.heap.size 0) ownUp_or
    rw [es0]
    refine ht.app hlt (fun op hop => ⟨ops_g op hop, fun x hx => ?_⟩) (.inl rfl) hsz (fun op hop x hx => ?_) (ops_rel fun e he => (hes e he).2)
    · obtain ⟨e, he, rfl⟩ := Go.Conc.mem_ofEvents hop
      rcases (hes e he).1 x hx with ⟨h1, h2⟩ | ⟨h1, h2 | ⟨c, hc, h2⟩⟩
      · exact .inl ⟨h1, h2, fun _ => rfl⟩
      · exact .inr ⟨h1, how.nosh 0 (act0 _) _ (by rw [eO]; exact h2), how.own 0 (act0 _) _ (by rw [eO]; exact h2) h1⟩
      · rw [h2]
        exact .inr ⟨h2 ▸ h1, (h.cho c hc).2, by rw [ownUp_low (clow c hc)]; exact (h.cho c hc).1⟩
    · obtain ⟨e, he, rfl⟩ := Go.Conc.mem_ofEvents hop
      rcases (hes e he).1 x hx with ⟨h1, h2⟩ | ⟨h1, h2 | ⟨c, hc, h2⟩⟩
      · exact shn_low (Nat.lt_of_lt_of_le h.wgl hsz) h1
      · exact lowL (how.lies 0 (act0 _)) (by rw [eO]; exact h2)
      · rw [h2]; exact Loc.low_mono hsz (clow c hc)
  · have := ops_g op hop; omega
  · rw [ownUp_low (clow c hc)]; exact (h.cho c hc).1
  · rw [get_ne (by omega)] at hg
    obtain ⟨y, hy, rfl⟩ := Option.map_eq_some_iff.1 hg
    exact hpar k c y hc hy hb
  · rw [e0] at e2
    cases e2
    rw [hboth k v s' e1] at e3
    cases e3
  · rw [e0]; exact hmode

/-- A STEP OF A WORKER's. -/
theorem Inv.stepW (hQ : ∀ k, Steady (Q k) Wg) (h : Inv P Wg z Q Next Shun L0 gs w t chs M TM D Ow own q0) {k c : Nat} {g g' : Goroutine} {w' : World} {es : Array Event} {O' : Own} {D' : WD} (hc : chs[k]? = some c) (hgk : gs[L0 + k]? = some g)
    (hsz : w.heap.size ≤ w'.heap.size) (hg : Grows (Ow (L0 + k)) O' w.heap.size w'.heap.size) (hX : ∀ b, O'.X b → FbM Wg chs M b) (hRe : ∀ i, Act L0 chs.length i → i ≠ L0 + k → Rely (Ow i) w w')
    (hes : ∀ e ∈ es, (∀ x, (MemAct.ofEvent e).touch? = some x → (ShN Wg x.loc ∧ x.kind ≠ .plain ∧ x.kind ≠ .said) ∨ OwnL O' x.loc) ∧ e.loc ≠ .mark (.release (stA Wg)))
    (hw : WSit P Wg z (Q k) c D' O' (deafBehind (Deaf t (L0 + k)) es) w' g') (hch : ∀ c ∈ chs, ∃ s, w'.heap[c]? = some (.chan 0 #[] (shutB M c) s s false))
    (hrl : released D'.k = true → Rl (ShN Wg) Wg (t ++ MemOp.ofEvents (L0 + k) g.frame.fn g.frame.place es) (L0 + k) D'.r) (hnb : g'.status ≠ .blocked)
    (hrcv : (∀ l, D'.k = .recv l → l = valsM M k) ∧ (shutB M c = false → ∃ l, D'.k = .recv l))
    (hmode : Mode Wg chs.length (upd D k D') w' (∃ a, (gs[0]?).map (woken P g g' w') = some a ∧ a.status = .running) M) :
    Inv P Wg z Q Next Shun L0 ((gs.map (woken P g g' w')).setIfInBounds (L0 + k) g') w' (t ++ MemOp.ofEvents (L0 + k) g.frame.fn g.frame.place es) chs M TM (upd D k D') (upd Ow (L0 + k) O') (ownUp own w.heap.size (L0 + k)) q0 := by
  have hlt : L0 + k < gs.size := (Array.getElem?_eq_some_iff.1 hgk).1
  have l0 := h.l0
  have hk := lt_chs hc
  have e0 : ((gs.map (woken P g g' w')).setIfInBounds (L0 + k) g')[L0 + k]? = some g' := get_eq hlt
  have es0 : ((gs.map (woken P g g' w')).setIfInBounds (L0 + k) g').size = gs.size := by simp
  have how : Owners (ShN Wg) Shun (Act L0 chs.length) (upd Ow (L0 + k) O') (FbM Wg chs M) (ownUp own w.heap.size (L0 + k)) w'.heap.size := h.ow.step (actk hk) hg hsz hX
  have eO : upd Ow (L0 + k) O' (L0 + k) = O' := upd_same _ _ _
  have eK : ∀ i, i ≠ L0 + k → upd Ow (L0 + k) O' i = Ow i := fun i hi => upd_ne _ _ hi
  have dk : ∀ i, i ≠ L0 + k → Deaf (t ++ MemOp.ofEvents (L0 + k) g.frame.fn g.frame.place es) i = Deaf t i := fun i hi => Deaf_other t (Ne.symm hi) _ ops_g
  have clow : ∀ c ∈ chs, (Loc.obj c).low w.heap.size := fun c hc => by
    obtain ⟨s, hs⟩ := h.ch c hc
    exact (Array.getElem?_eq_some_iff.1 hs).1
  have nwk : ¬ O'.B Wg ∧ ∀ o, ¬ O'.C Wg o := by
    refine ⟨fun x => (hg.B Wg x).elim (h.nw k hk).1 (fun y => by have := h.wgl; omega), fun o x => (h.nw k hk).2 o (hg.C _ _ x)⟩
  have nsh : ∀ l, OwnL O' l → ¬ ShN Wg l := by
    rintro l hl ⟨b, rfl, hb⟩
    rcases hl with x | x
    · rw [hb] at x; exact nwk.1 x
    · rw [hb] at x; exact nwk.2 _ x
  refine ⟨l0, es0.trans h.size, ?_, fun j c' hc' => ?_, fun i y hi hl hy => ?_, fun j hj => ?_, ?_, fun j hj hr => ?_, how, fun c' hc' => ⟨?_, (h.cho c' hc').2⟩, fun j hj => ?_, Nat.lt_of_lt_of_le h.wgl hsz, h.nwc, h.nd, hch, fun j c' y hc' hy hb => ?_, fun j v s' b y e1 e2 e3 e4 => ?_, fun j c' hc' => ?_, ?_, h.len, h.sok⟩
  · obtain ⟨a, h1, h2⟩ := h.main
    refine ⟨woken P g g' w' a, by rw [get_ne (by omega), h1]; rfl, ?_⟩
    rw [eK 0 (by omega), dk 0 (by omega)]
    exact (h2.rely (hRe 0 (act0 _) (by omega))).woken _ _ _
  · by_cases hjk : j = k
    · subst hjk
      rw [hc] at hc'; cases hc'
      exact ⟨g', e0, by rw [eO, Deaf_own, upd_same]; exact hw⟩
    · obtain ⟨y, h1, h2⟩ := h.wk j c' hc'
      refine ⟨woken P g g' w' y, by rw [get_ne (by omega), h1]; rfl, ?_⟩
      rw [eK _ (by omega), dk _ (by omega), upd_ne _ _ hjk]
      exact (h2.rely (hQ j) (hRe _ (actk (lt_chs hc')) (by omega))).woken _ _ _
  · rw [get_ne (by omega)] at hy
    obtain ⟨y', hy', rfl⟩ := Option.map_eq_some_iff.1 hy
    have hq := h.old i y' hi hl hy'
    rw [woken_quitsD hq, dk i (by omega)]
    exact hq
  · rw [dk j (by rw [es0] at hj; omega)]
    exact h.above j (by rw [es0] at hj; exact hj)
  · have ht := h.ti.reown (ownUp own w.heap.size (L0 + k)) ownUp_or
    rw [es0]
    refine ht.app hlt (fun op hop => ⟨ops_g op hop, fun x hx => ?_⟩) (.inr (.inl (by omega))) hsz (fun op hop x hx => ?_) (ops_rel fun e he => (hes e he).2)
    · obtain ⟨e, he, rfl⟩ := Go.Conc.mem_ofEvents hop
      rcases (hes e he).1 x hx with ⟨h1, h2, h3⟩ | h2
      · exact .inl ⟨h1, h2, fun e => absurd e h3⟩
      · exact .inr ⟨nsh _ h2, how.nosh _ (actk hk) _ (by rw [eO]; exact h2), how.own _ (actk hk) _ (by rw [eO]; exact h2) (nsh _ h2)⟩
    · obtain ⟨e, he, rfl⟩ := Go.Conc.mem_ofEvents hop
      rcases (hes e he).1 x hx with ⟨h1, h2, _⟩ | h2
      · exact shn_low (Nat.lt_of_lt_of_le h.wgl hsz) h1
      · exact lowL (how.lies _ (actk hk)) (by rw [eO]; exact h2)
  · by_cases hjk : j = k
    · subst hjk
      rw [upd_same] at hr ⊢
      exact hrl hr
    · rw [upd_ne _ _ hjk] at hr ⊢
      exact (h.rl j hj hr).other fun op hop e => by have := ops_g op hop; omega
  · rw [ownUp_low (clow c' hc')]; exact (h.cho c' hc').1
  · by_cases hjk : j = k
    · subst hjk; rw [eO]; exact nwk
    · rw [eK _ (by omega)]; exact h.nw j hj
  · by_cases hjk : j = k
    · subst hjk
      rw [e0] at hy; cases hy
      exact absurd hb hnb
    · rw [get_ne (by omega)] at hy
      obtain ⟨y', hy', rfl⟩ := Option.map_eq_some_iff.1 hy
      exact h.par j c' y' hc' hy' (woken_blocked hb)
  · rw [get_ne (by omega)] at e2
    obtain ⟨b', hb', rfl⟩ := Option.map_eq_some_iff.1 e2
    by_cases hjk : j = k
    · subst hjk
      rw [e0] at e4; cases e4
      exact hnb
    · rw [get_ne (by omega)] at e4
      obtain ⟨y', hy', rfl⟩ := Option.map_eq_some_iff.1 e4
      intro hb
      exact h.both j v s' b' y' e1 hb' (woken_blocked e3) hy' (woken_blocked hb)
  · by_cases hjk : j = k
    · subst hjk
      rw [hc] at hc'; cases hc'
      rw [upd_same]
      exact hrcv
    · rw [upd_ne _ _ hjk]
      exact h.rcv j c' hc'
  · rw [get_ne (by omega)]; exact hmode

/-- One of an elder call slips. -/
theorem Inv.slip (h : Inv P Wg z Q Next Shun L0 gs w t chs M TM D Ow own q0) {i n : Nat} {g g' : Goroutine} {es : Array Event} (h0 : 0 < i) (hl : i < L0) (hgi : gs[i]? = some g) (hm : ∀ e ∈ es, Event.mute e = true) (hq : QuitsD P n (deafBehind (Deaf t i) es) g') :
    Inv P Wg z Q Next Shun L0 ((gs.map (woken P g g' w)).setIfInBounds i g') w (t ++ MemOp.ofEvents i g.frame.fn g.frame.place es) chs M TM D Ow own (upd q0 i n) := by
  have hlt : i < gs.size := (Array.getElem?_eq_some_iff.1 hgi).1
  have e0 : ((gs.map (woken P g g' w)).setIfInBounds i g')[i]? = some g' := get_eq hlt
  have es0 : ((gs.map (woken P g g' w)).setIfInBounds i g').size = gs.size := by simp
  have dk : ∀ j, j ≠ i → Deaf (t ++ MemOp.ofEvents i g.frame.fn g.frame.place es) j = Deaf t j := fun j hj => Deaf_other t (Ne.symm hj) _ ops_g
  have mt : ∀ op ∈ MemOp.ofEvents i g.frame.fn g.frame.place es, op.act.touch? = none := fun op hop => by
    obtain ⟨e, he, rfl⟩ := Go.Conc.mem_ofEvents hop
    exact touch_mute (hm e he)
  have mr : ∀ e ∈ es, e.loc ≠ .mark (.release (stA Wg)) := fun e he x => by
    have := hm e he
    obtain ⟨loc, wr, sy⟩ := e
    dsimp only at x
    subst x
    cases this
  refine ⟨h.l0, es0.trans h.size, ?_, fun k c hc => ?_, fun j y hj hl' hy => ?_, fun j hj => ?_, ?_, fun k hk hr => (h.rl k hk hr).other fun op hop _ => mt op hop, h.ow, h.cho, h.nw, h.wgl, h.nwc, h.nd, h.ch, fun k c y hc hy hb => ?_, fun k v s' b y e1 e2 e3 e4 => ?_, h.rcv, ?_, h.len, h.sok⟩
  · obtain ⟨a, h1, h2⟩ := h.main
    refine ⟨woken P g g' w a, by rw [get_ne (by omega), h1]; rfl, ?_⟩
    rw [dk 0 (by omega)]
    exact h2.woken _ _ _
  · obtain ⟨y, h1, h2⟩ := h.wk k c hc
    refine ⟨woken P g g' w y, by rw [get_ne (by omega), h1]; rfl, ?_⟩
    rw [dk _ (by omega)]
    exact h2.woken _ _ _
  · by_cases hji : j = i
    · subst hji
      rw [e0] at hy; cases hy
      rw [upd_same, Deaf_own]
      exact hq
    · rw [get_ne hji] at hy
      obtain ⟨y', hy', rfl⟩ := Option.map_eq_some_iff.1 hy
      have hq' := h.old j y' hj hl' hy'
      rw [woken_quitsD hq', dk j hji, upd_ne _ _ hji]
      exact hq'
  · rw [dk j (by rw [es0] at hj; omega)]
    exact h.above j (by rw [es0] at hj; exact hj)
  · rw [es0]
    refine h.ti.mute (fun op hop => ⟨by rw [ops_g op hop]; exact hlt, mt op hop⟩) (ops_rel mr)
  · rw [get_ne (by omega)] at hy
    obtain ⟨y', hy', rfl⟩ := Option.map_eq_some_iff.1 hy
    exact h.par k c y' hc hy' (woken_blocked hb)
  · rw [get_ne (by omega)] at e2 e4
    obtain ⟨b', hb', rfl⟩ := Option.map_eq_some_iff.1 e2
    obtain ⟨y', hy', rfl⟩ := Option.map_eq_some_iff.1 e4
    intro hb
    exact h.both k v s' b' y' e1 hb' (woken_blocked e3) hy' (woken_blocked hb)
  · have hmd := h.mode
    have hr : (∃ a, gs[0]? = some a ∧ a.status = .running) → ∃ a, ((gs.map (woken P g g' w)).setIfInBounds i g')[0]? = some a ∧ a.status = .running := by
      rintro ⟨a, ha, hs⟩
      exact ⟨a, by rw [get_ne (by omega), ha]; simp [woken_run hs], hs⟩
    cases M using MK.cs with
    | w3 =>
      rcases hmd with x | x | ⟨x1, x2, x3⟩
      · exact .inl x
      · exact .inr (.inl x)
      · exact .inr (.inr ⟨x1, x2, hr x3⟩)
    | _ => exact hmd

/-- A COMMUNICATION of the starter's and worker k's, or of one of them. -/
theorem Inv.comm (hQ : ∀ k, Steady (Q k) Wg) (h : Inv P Wg z Q Next Shun L0 gs w t chs M TM D Ow own q0) {k c : Nat} {gs' : Array Goroutine} {w' : World} {u : Trace} {a' g' : Goroutine} {M' : MK} {TM' : Tree} {O' : Own} {D' : WD} (hc : chs[k]? = some c) (hgs : gs'.size = gs.size)
    (h0 : gs'[0]? = some a') (hgk : gs'[L0 + k]? = some g') (hj : ∀ j, j ≠ 0 → j ≠ L0 + k → gs'[j]? = gs[j]?) (hsz : w'.heap.size = w.heap.size) (hRe : ∀ i, Act L0 chs.length i → i ≠ 0 → i ≠ L0 + k → Rely (Ow i) w w')
    (hu : ∀ op ∈ u, op.g < gs.size ∧ op.act.touch? = none) (hum : ∀ op ∈ u, ∀ m, op.act ≠ .mark m)
    (hB : O'.B = (Ow (L0 + k)).B) (hC : O'.C = (Ow (L0 + k)).C) (hX : ∀ b, O'.X b → FbM Wg chs M b) (hF : FbM Wg chs M' = FbM Wg chs M)
    (hm : MSit P Wg z Q Next chs M' TM' (Ow 0) (Deaf t 0) w' a') (hw : WSit P Wg z (Q k) c D' O' (Deaf t (L0 + k)) w' g') (hch : ∀ c ∈ chs, ∃ s, w'.heap[c]? = some (.chan 0 #[] (shutB M' c) s s false)) (hsb : ∀ c, shutB M' c = shutB M c)
    (hnr : released D'.k = false) (hpk : g'.status = .blocked → shutB M c = false) (hbo : ∀ j v s' y, M' = .script (.send j v :: s') → a'.status = .blocked → gs'[L0 + j]? = some y → y.status ≠ .blocked)
    (hrcv : ∀ j c', chs[j]? = some c' → (∀ l, (upd D k D' j).k = .recv l → l = valsM M' j) ∧ (shutB M c' = false → ∃ l, (upd D k D' j).k = .recv l))
    (hmode : Mode Wg chs.length (upd D k D') w' (∃ a, some a' = some a ∧ a.status = .running) M') (hlen : chs.length + goesM M' < 2147483647) (hso : ShutOk chs M') :
    Inv P Wg z Q Next Shun L0 gs' w' (t ++ u) chs M' TM' (upd D k D') (upd Ow (L0 + k) O') own q0 := by
  have l0 := h.l0
  have hk := lt_chs hc
  have eO : upd Ow (L0 + k) O' (L0 + k) = O' := upd_same _ _ _
  have eK : ∀ i, i ≠ L0 + k → upd Ow (L0 + k) O' i = Ow i := fun i hi => upd_ne _ _ hi
  have dk : ∀ i, Deaf (t ++ u) i = Deaf t i := fun i => Deaf_still t i u fun op hop => ⟨hum op hop _, hum op hop _⟩
  have hg : Grows (Ow (L0 + k)) O' w.heap.size w.heap.size := ⟨fun b x => .inl (by rw [← hB]; exact x), fun b o x => by rw [← hC]; exact x⟩
  have how0 := h.ow.step (actk hk) hg (Nat.le_refl _) hX
  have how : Owners (ShN Wg) Shun (Act L0 chs.length) (upd Ow (L0 + k) O') (FbM Wg chs M) own w.heap.size := by
    refine ⟨fun i hi l hl hs => ?_, how0.nosh, how0.dj, how0.lies, how0.fb, how0.x, how0.slow⟩
    have := how0.own i hi l hl hs
    rwa [ownUp_low (lowL (how0.lies i hi) hl)] at this
  refine ⟨l0, hgs.trans h.size, ⟨a', h0, by rw [eK 0 (by omega), dk]; exact hm⟩, fun j c' hc' => ?_, fun i y hi hl hy => ?_, fun j hj' => by rw [dk]; exact h.above j (by rw [← hgs]; exact hj'), ?_, fun j hj' hr => ?_, by rw [hsz, hF]; exact how, h.cho, fun j hj' => ?_, by rw [hsz]; exact h.wgl, h.nwc, h.nd, hch, fun j c' y hc' hy hb => ?_, fun j v s' b y e1 e2 e3 e4 => ?_, fun j c' hc' => ?_, by rw [h0]; exact hmode, hlen, hso⟩
  · by_cases hjk : j = k
    · subst hjk
      rw [hc] at hc'; cases hc'
      exact ⟨g', hgk, by rw [eO, dk, upd_same]; exact hw⟩
    · obtain ⟨y, h1, h2⟩ := h.wk j c' hc'
      refine ⟨y, by rw [hj _ (by omega) (by omega)]; exact h1, ?_⟩
      rw [eK _ (by omega), dk, upd_ne _ _ hjk]
      exact h2.rely (hQ j) (hRe _ (actk (lt_chs hc')) (by omega) (by omega))
  · rw [dk]
    exact h.old i y hi hl (by rw [← hj i (by omega) (by omega)]; exact hy)
  · rw [hgs, hsz]
    exact h.ti.mute hu fun op hop => hum op hop _
  · by_cases hjk : j = k
    · subst hjk
      rw [upd_same] at hr
      rw [hnr] at hr; cases hr
    · rw [upd_ne _ _ hjk] at hr ⊢
      exact (h.rl j hj' hr).other fun op hop _ => (hu op hop).2
  · by_cases hjk : j = k
    · subst hjk
      rw [eO, hB, hC]; exact h.nw j hj'
    · rw [eK _ (by omega)]; exact h.nw j hj'
  · rw [hsb]
    by_cases hjk : j = k
    · subst hjk
      rw [hc] at hc'; cases hc'
      rw [hgk] at hy; cases hy
      exact hpk hb
    · exact h.par j c' y hc' (by rw [← hj _ (by omega) (by omega)]; exact hy) hb
  · rw [h0] at e2; cases e2
    exact hbo j v s' y e1 e3 e4
  · rw [hsb]
    exact hrcv j c' hc'

/-- A go STATEMENT. -/
theorem Inv.spawn {s : List Cmd} (h : Inv P Wg z Q Next Shun L0 gs w t chs (.script (.go :: s)) TM D Ow own q0) {a a' child : Goroutine} {c : Nat} {O' Oc : Own} {TM' T : Tree} (ha : gs[0]? = some a) (hd : Deaf t 0 = 0) (hcO : (Ow 0).B c) (hcw : c ≠ Wg) (hcc : w.heap[c]? = some (.chan 0 #[] false 0 0 false)) (hs : Splits (Ow 0) O' Oc c) (hwB : ¬ Oc.B Wg) (hwC : ∀ o, ¬ Oc.C Wg o)
    (hm : RunSit P true (EvMn Wg) (MStop P Wg z Q Next s (chs ++ [c])) TM' O' 0 w a') (hw : RunSit P false (EvWk Wg) (RStop P Wg z (Q chs.length) c (valsOf chs.length s)) T Oc 0 w child) {x y : MemOp} (hx : x.g = 0 ∧ x.act = .go gs.size) (hy : y.g = gs.size ∧ y.act = .start) :
    Inv P Wg z Q Next Shun L0 ((gs.setIfInBounds 0 a').push child) w (t ++ #[x, y]) (chs ++ [c]) (.script s) TM' (upd D chs.length ⟨.recv (valsOf chs.length s), T, 0, 0⟩) (upd (upd Ow 0 O') (L0 + chs.length) Oc) (ownGo own (L0 + chs.length) Oc) q0 := by
  have l0 := h.l0
  have hlt : 0 < gs.size := (Array.getElem?_eq_some_iff.1 ha).1
  have hsh : ∀ l, OwnL Oc l → ¬ ShN Wg l := by
    rintro l hl ⟨b, rfl, hb⟩
    rcases hl with x | x
    · rw [hb] at x; exact hwB x
    · rw [hb] at x; exact hwC _ x
  have hcn : c ∉ chs := fun hc => ((h.ow.fb c hc).2 0 (act0 _)).1 hcO
  have hnA : ¬ Act L0 chs.length (L0 + chs.length) := by
    rintro (x | ⟨_, x⟩) <;> omega
  obtain ⟨how, hown⟩ := h.ow.spawn (act0 _) hnA hs hcO hsh
  have ec : (chs ++ [c]).length = chs.length + 1 := by simp
  have hA : (fun i => Act L0 chs.length i ∨ i = L0 + chs.length) = Act L0 (chs ++ [c]).length := by
    funext i
    refine propext ⟨?_, ?_⟩
    · rw [ec]
      rintro ((x | ⟨x, y⟩) | x)
      · exact .inl x
      · exact .inr ⟨x, by omega⟩
      · exact .inr ⟨by omega, by omega⟩
    · rw [ec]
      rintro (x | ⟨x, y⟩)
      · exact .inl (.inl x)
      · rcases Nat.lt_or_ge i (L0 + chs.length) with z | z
        · exact .inl (.inr ⟨x, z⟩)
        · exact .inr (by omega)
  have hFb : (fun b => FbM Wg chs (.script (.go :: s)) b ∨ b = c) = FbM Wg (chs ++ [c]) (.script s) := by
    funext b
    simp [FbM]
  rw [hA, hFb] at how
  have g0 : ((gs.setIfInBounds 0 a').push child)[0]? = some a' := by rw [Array.getElem?_push_lt (by simpa using hlt)]; simp
  have gk : ∀ i, 0 < i → i < gs.size → ((gs.setIfInBounds 0 a').push child)[i]? = gs[i]? := fun i h1 h2 => by
    rw [Array.getElem?_push, if_neg (by simp; omega), Array.getElem?_setIfInBounds_ne (by omega)]
  have gn : ((gs.setIfInBounds 0 a').push child)[gs.size]? = some child := by
    rw [Array.getElem?_push, if_pos (by simp)]
  have esz : gs.size = L0 + chs.length := h.size
  have dk : ∀ i, Deaf (t ++ #[x, y]) i = Deaf t i := fun i => Deaf_still t i _ fun op hop => by
    simp only [List.mem_toArray, List.mem_cons, List.not_mem_nil, or_false] at hop
    rcases hop with rfl | rfl
    · rw [hx.2]; simp
    · rw [hy.2]; simp
  have eO : ∀ i, i ≠ 0 → i ≠ L0 + chs.length → upd (upd Ow 0 O') (L0 + chs.length) Oc i = Ow i := fun i h1 h2 => by rw [upd_ne _ _ h2, upd_ne _ _ h1]
  have e0 : upd (upd Ow 0 O') (L0 + chs.length) Oc 0 = O' := by rw [upd_ne _ _ (by omega), upd_same]
  have cas : ∀ {k c'}, (chs ++ [c])[k]? = some c' → (chs[k]? = some c' ∧ k < chs.length) ∨ (k = chs.length ∧ c' = c) := by
    intro k c' hk
    rcases Nat.lt_or_ge k chs.length with hl | hl
    · rw [List.getElem?_append_left hl] at hk; exact .inl ⟨hk, hl⟩
    · have := lt_chs hk
      rw [ec] at this
      obtain rfl : k = chs.length := by omega
      simp at hk
      exact .inr ⟨rfl, hk.symm⟩
  refine ⟨l0, by simp [esz]; omega, ⟨a', g0, by rw [e0, dk, hd]; exact .inl hm⟩, fun k c' hc' => ?_, fun i g hi hl hg => ?_, fun j hj => ?_, ?_, fun k hk hr => ?_, how, fun c' hc' => ?_, fun k hk => ?_, h.wgl, ?_, ?_, fun c' hc' => ?_, fun k c' g hc' hg hb => rfl, fun k v s' b g e1 e2 e3 e4 => ?_, fun k c' hc' => ?_, trivial, ?_, trivial⟩
  · rcases cas hc' with ⟨h1, h2⟩ | ⟨rfl, rfl⟩
    · obtain ⟨g, g1, g2⟩ := h.wk k c' h1
      refine ⟨g, by rw [gk _ (by omega) (by omega)]; exact g1, ?_⟩
      rw [eO _ (by omega) (by omega), dk, upd_ne _ _ (by omega)]
      exact g2
    · refine ⟨child, by rw [← esz]; exact gn, ?_⟩
      rw [upd_same, upd_same, dk, h.above _ (by omega)]
      exact .inl hw
  · rw [gk i hi (by omega)] at hg
    rw [dk]
    exact h.old i g hi hl hg
  · rw [dk]
    exact h.above j (by simp at hj; omega)
  · have := h.ti.fork hlt hx hy hd (ownGo own (L0 + chs.length) Oc) (by rw [esz]; exact hown)
    have e : ((gs.setIfInBounds 0 a').push child).size = gs.size + 1 := by simp
    rw [e]
    exact this
  · rw [ec] at hk
    by_cases hkn : k = chs.length
    · subst hkn; rw [upd_same] at hr; cases hr
    · rw [upd_ne _ _ hkn] at hr ⊢
      refine (h.rl k (by omega) hr).other fun op hop _ => ?_
      simp only [List.mem_toArray, List.mem_cons, List.not_mem_nil, or_false] at hop
      rcases hop with rfl | rfl
      · rw [hx.2]; rfl
      · rw [hy.2]; rfl
  · have hob : ¬ OwnL Oc (.obj c') := by
      rcases List.mem_append.1 hc' with h1 | h1
      · intro hx'
        exact ((h.ow.fb c' h1).2 0 (act0 _)).1 (hs.cB _ hx')
      · simp at h1; subst h1; exact hs.n2.1
    have e : ownGo own (L0 + chs.length) Oc (.obj c') = own (.obj c') := by unfold ownGo; rw [if_neg hob]
    rw [e]
    rcases List.mem_append.1 hc' with h1 | h1
    · exact h.cho c' h1
    · simp at h1; subst h1
      exact ⟨h.ow.own 0 (act0 _) _ hcO (by rintro ⟨_, hx', _⟩; cases hx'), h.ow.nosh 0 (act0 _) _ hcO⟩
  · rw [ec] at hk
    by_cases hkn : k = chs.length
    · subst hkn; rw [upd_same]; exact ⟨hwB, hwC⟩
    · rw [eO _ (by omega) (by omega)]; exact h.nw k (by omega)
  · intro hx'
    rcases List.mem_append.1 hx' with h1 | h1
    · exact h.nwc h1
    · simp at h1; exact hcw h1.symm
  · rw [List.nodup_append]
    refine ⟨h.nd, by simp, fun x hx' y hy' => ?_⟩
    simp at hy'
    subst hy'
    exact fun e => hcn (e ▸ hx')
  · rcases List.mem_append.1 hc' with h1 | h1
    · exact h.ch c' h1
    · simp at h1; subst h1; exact ⟨0, hcc⟩
  · rw [g0] at e2; cases e2
    rw [hm.1] at e3; cases e3
  · rcases cas hc' with ⟨h1, h2⟩ | ⟨rfl, rfl⟩
    · rw [upd_ne _ _ (by omega)]
      exact h.rcv k c' h1
    · rw [upd_same]
      exact ⟨fun l hl => by cases hl; rfl, fun _ => ⟨_, rfl⟩⟩
  · have := h.len
    simp only [goesM, goes, ec] at this ⊢
    omega
end

end Go.Proofs.Ytgpplekabohneaa.Co

namespace Go.Proofs.Ytgpplekabohneaa.Co
open Go Go.Conc Go.ConcN
open Go.ConcR (KK WgAt stA smA rd wr)

def wrank : WK → Nat
  | some (some (some (some (some (some _))))) => 7
  | none => 6
  | some none => 5
  | some (some none) => 4
  | some (some (some none)) => 3
  | some (some (some (some none))) => 2
  | some (some (some (some (some none)))) => 1
def mrank (n : Nat) : MK → Nat
  | some (some (some (.inl s))) => 10 * s.length + 3 * (n + goes s) + 9
  | some (some (some (.inr (.inl (m, _))))) => m + 2 * n + 8
  | some (some (some (.inr (.inr (.inl N))))) => 2 * N + 6
  | some (some (some (.inr (.inr (.inr (_, N)))))) => 2 * N + 7
  | none => 4
  | some none => 3
  | some (some none) => 2
def bit : Option Goroutine → Nat
  | some g => match g.status with
    | .running => 1
    | _ => 0
  | none => 0
def bits (gs : Array Goroutine) : Nat := sumTo gs.size fun i => bit gs[i]?
def trees (n : Nat) (TM : Tree) (D : Nat → WD) : List Tree := TM :: (List.range n).map fun k => (D k).T

abbrev Me := Nat × List Tree × Nat × Nat
def Lt4 : Me → Me → Prop := Prod.Lex (· < ·) (Prod.Lex (StepL Tree.Below) (Prod.Lex (· < ·) (· < ·)))
theorem lt4_wf : WellFounded Lt4 := (Prod.lex ⟨_, Nat.lt_wfRel.wf⟩ (Prod.lex ⟨_, stepL_wf tree_wf⟩ (Prod.lex ⟨_, Nat.lt_wfRel.wf⟩ ⟨_, Nat.lt_wfRel.wf⟩))).wf
def meas (L0 : Nat) (gs : Array Goroutine) (n : Nat) (M : MK) (TM : Tree) (D : Nat → WD) (q0 : Nat → Nat) : Me := (mrank n M + sumTo n fun k => wrank (D k).k, trees n TM D, (sumTo L0 q0 + sumTo n fun k => (D k).q), bits gs)

theorem lt4_rank {a a' : Nat} {b b' : List Tree} {c c' d d' : Nat} (h : a' < a) : Lt4 (a', b', c', d') (a, b, c, d) := .left _ _ h
theorem lt4_tree {a a' : Nat} {b b' : List Tree} {c c' d d' : Nat} (h : a' = a) (hb : StepL Tree.Below b' b) : Lt4 (a', b', c', d') (a, b, c, d) := by subst h; exact .right _ (.left _ _ hb)
theorem lt4_q {a a' : Nat} {b b' : List Tree} {c c' d d' : Nat} (h : a' = a) (hb : b' = b) (hc : c' < c) : Lt4 (a', b', c', d') (a, b, c, d) := by subst h hb; exact .right _ (.right _ (.left _ _ hc))
theorem lt4_bit {a a' : Nat} {b b' : List Tree} {c c' d d' : Nat} (h : a' = a) (hb : b' = b) (hc : c' = c) (hd : d' < d) : Lt4 (a', b', c', d') (a, b, c, d) := by subst h hb hc; exact .right _ (.right _ (.right _ hd))

theorem step_main (n : Nat) (f : World → Tree) (w : World) (D : Nat → WD) : StepL Tree.Below (trees n (f w) D) (trees n (.node f) D) := ⟨0, .node f, f w, rfl, ⟨rfl, w, rfl⟩, rfl⟩

theorem trees_upd {n k : Nat} {TM : Tree} {D : Nat → WD} {D' : WD} : trees n TM (upd D k D') = if k < n then (trees n TM D).set (k + 1) D'.T else trees n TM D := by
  split
  · rename_i hk
    unfold trees
    rw [List.set_cons_succ]
    congr 1
    refine List.ext_getElem? fun i => ?_
    rw [List.getElem?_set, List.getElem?_map, List.getElem?_map]
    by_cases hi : k = i
    · subst hi
      simp [hk, upd_same]
    · rw [if_neg hi]
      rcases Nat.lt_or_ge i n with h | h
      · simp [h, upd_ne D D' (Ne.symm hi)]
      · simp [h]
  · rename_i hk
    unfold trees
    congr 1
    refine List.map_congr_left fun i hi => ?_
    rw [upd_ne _ _ (by have := List.mem_range.1 hi; omega)]

theorem step_work {n k : Nat} {TM : Tree} {D : Nat → WD} {D' : WD} {f : World → Tree} {w : World} (hk : k < n) (hT : (D k).T = .node f) (hT' : D'.T = f w) : StepL Tree.Below (trees n TM (upd D k D')) (trees n TM D) := by
  rw [trees_upd, if_pos hk]
  exact ⟨k + 1, .node f, f w, by simp [trees, hk, hT], ⟨rfl, w, rfl⟩, by rw [hT']⟩

theorem trees_same {n k : Nat} {TM : Tree} {D : Nat → WD} {D' : WD} (hT : D'.T = (D k).T) : trees n TM (upd D k D') = trees n TM D := by
  unfold trees
  congr 1
  refine List.map_congr_left fun i _ => ?_
  by_cases hi : i = k
  · subst hi; rw [upd_same, hT]
  · rw [upd_ne _ _ hi]

theorem rank_upd {n k : Nat} {D : Nat → WD} {D' : WD} (hk : k < n) : (sumTo n fun j => wrank (upd D k D' j).k) + wrank (D k).k = (sumTo n fun j => wrank (D j).k) + wrank D'.k := sumTo_upd D D' (fun x => wrank x.k) hk
theorem q_upd {n k : Nat} {D : Nat → WD} {D' : WD} (hk : k < n) : (sumTo n fun j => (upd D k D' j).q) + (D k).q = (sumTo n fun j => (D j).q) + D'.q := sumTo_upd D D' (fun x => x.q) hk
theorem cnt_upd {n k : Nat} {D : Nat → WD} {D' : WD} (hk : k < n) : cnt n (upd D k D') + cw (D k) = cnt n D + cw D' := sumTo_upd D D' cw hk
theorem cw_le (D : WD) : cw D ≤ 1 := by unfold cw; split <;> omega
theorem cnt_le (n : Nat) (D : Nat → WD) : cnt n D ≤ n := by
  have := sumTo_le (f := fun k => cw (D k)) (c := 1) (j := n) fun i _ => cw_le _
  unfold cnt; omega
theorem cnt_pos {n k : Nat} {D : Nat → WD} (hk : k < n) (h : counted (D k).k = true) : 1 ≤ cnt n D := by
  have := le_sumTo (f := fun k => cw (D k)) hk
  have e : cw (D k) = 1 := by unfold cw; rw [h]; rfl
  unfold cnt; omega
theorem cnt_zero {n : Nat} {D : Nat → WD} (h : cnt n D = 0) {k : Nat} (hk : k < n) : counted (D k).k = false := by
  cases hc : counted (D k).k with
  | false => rfl
  | true => have := cnt_pos hk hc; omega
theorem cnt_all : ∀ {n : Nat} {D : Nat → WD}, (∀ k, k < n → counted (D k).k = true) → cnt n D = n
  | 0, _, _ => rfl
  | n + 1, D, h => by
    have ih := cnt_all (n := n) (D := D) fun k hk => h k (by omega)
    unfold cnt at ih ⊢
    rw [sumTo, ih]
    have : cw (D n) = 1 := by unfold cw; rw [h n (by omega)]; rfl
    omega
theorem cnt_one {n k : Nat} {D : Nat → WD} (h : cnt n D = 1) (hk : k < n) (hc : counted (D k).k = true) {j : Nat} (hj : j < n) (hne : j ≠ k) : counted (D j).k = false := by
  have e := cnt_upd (D := D) (D' := ⟨.quit, .leaf, 0, 0⟩) hk
  have e1 : cw (D k) = 1 := by unfold cw; rw [hc]; rfl
  have e2 : cw (⟨.quit, .leaf, 0, 0⟩ : WD) = 0 := rfl
  have := cnt_zero (n := n) (D := upd D k ⟨.quit, .leaf, 0, 0⟩) (by omega) hj
  rwa [upd_ne _ _ hne] at this

theorem bits_park {gs : Array Goroutine} {i : Nat} {g x : Goroutine} (hi : gs[i]? = some g) (hr : g.status = .running) (hx : x.status = .blocked) : bits (gs.setIfInBounds i x) < bits gs := by
  have hlt : i < gs.size := (Array.getElem?_eq_some_iff.1 hi).1
  have e1 : bits (gs.setIfInBounds i x) = sumTo gs.size (fun j => id (upd (fun j => bit gs[j]?) i 0 j)) := by
    unfold bits
    rw [Array.size_setIfInBounds]
    refine sumTo_congr fun j _ => ?_
    by_cases hj : j = i
    · subst hj
      rw [upd_same, Array.getElem?_setIfInBounds_self_of_lt hlt]
      simp [bit, hx]
    · rw [upd_ne _ _ hj, Array.getElem?_setIfInBounds_ne (Ne.symm hj)]
      rfl
  have e2 := sumTo_upd (fun j => bit gs[j]?) 0 id hlt
  have e3 : bit gs[i]? = 1 := by rw [hi]; simp [bit, hr]
  rw [e1]
  simp only [id] at e2 ⊢
  unfold bits
  omega

/-! ### what a step does to the shared blocks -/
theorem rely_chan {O : Own} {w : World} {c cap s r cap' s' r' : Nat} {b b' : Array Value} {cl cl' tm tm' : Bool} (hc : w.heap[c]? = some (.chan cap b cl s r tm)) (hB : ¬ O.B c) (hC : ∀ o, ¬ O.C c o) : Rely O w (w.setChan c cap' b' cl' s' r' tm') := by
  have hne : ∀ x, x ≠ c → (w.setChan c cap' b' cl' s' r' tm').heap[x]? = w.heap[x]? := fun x hx => by
    unfold World.setChan
    dsimp only
    rw [Array.getElem?_setIfInBounds_ne (Ne.symm hx)]
  refine ⟨by simp [World.setChan], rfl, rfl, rfl, fun x hx => hne x (fun e => hB (e ▸ hx)), fun x o hx => ?_, fun x cs e f hx => ⟨cs, (hne x (fun e => by subst e; rw [hc] at hx; cases hx)).trans hx, rfl⟩, fun x _ ⟨st, sm, y⟩ => ⟨st, sm, (hne x (fun e => by subst e; rw [hc] at y; cases y)).trans y⟩⟩
  unfold World.cell?
  dsimp only
  rw [hne x (fun e => hC o (e ▸ hx))]

theorem rely_wg {O : Own} {w : World} {Wg i : Nat} {v : Value} {st' sm' : Int} (hB : ¬ O.B Wg) (hC : ∀ o, ¬ O.C Wg o) (hw' : WgAt 125 Wg (w.setCell ⟨Wg, i, none⟩ v) st' sm') : Rely O w (w.setCell ⟨Wg, i, none⟩ v) := by
  have h0 := rely_set O w ⟨Wg, i, none⟩ v
  have hne : ∀ x, x ≠ Wg → (w.setCell ⟨Wg, i, none⟩ v).heap[x]? = w.heap[x]? := fun x hx => h0.blk x |> fun _ => by
    unfold World.setCell
    simp only
    rw [Array.getElem?_modify]
    rw [if_neg (Ne.symm hx)]
  refine ⟨h0.size, rfl, rfl, rfl, fun x hx => hne x (fun e => hB (e ▸ hx)), fun x o hx => ?_, h0.shape, fun x _ ⟨s1, s2, y⟩ => ?_⟩
  · unfold World.cell?
    dsimp only
    rw [hne x (fun e => hC o (e ▸ hx))]
  · by_cases hx : x = Wg
    · subst hx; exact ⟨st', sm', hw'⟩
    · exact ⟨s1, s2, (hne x hx).trans y⟩

theorem Mode.of_heap {Wg n : Nat} {D : Nat → WD} {w w' : World} {r r' : Prop} {M : MK} (h : Mode Wg n D w r M) (e : (∃ s, M = .script s) ∨ w'.heap[Wg]? = w.heap[Wg]?) (hr : r → r') : Mode Wg n D w' r' M := by
  rcases e with ⟨s, rfl⟩ | e
  · trivial
  have k : ∀ {st sm}, WgAt 125 Wg w st sm → WgAt 125 Wg w' st sm := fun x => e.trans x
  cases M using MK.cs with
  | script s => trivial
  | shut m op => exact ⟨k h.1, h.2⟩
  | w1 N => exact ⟨h.1, k h.2.1, h.2.2⟩
  | w2 m N => exact ⟨h.1, k h.2.1, h.2.2⟩
  | w3 =>
    rcases h with ⟨a, b, c⟩ | ⟨j, a, b, ⟨c, d⟩ | ⟨c, d⟩⟩ | ⟨a, b, c⟩
    · exact .inl ⟨a, k b, c⟩
    · exact .inr (.inl ⟨j, a, b, .inl ⟨c, k d⟩⟩)
    · exact .inr (.inl ⟨j, a, b, .inr ⟨c, k d⟩⟩)
    · exact .inr (.inr ⟨a, k b, hr c⟩)
  | w4 => exact ⟨h.1, k h.2⟩
  | acq => exact h

/-! ### the starter's stops -/
section defs
variable (P : Program) (Wg : Nat) (z : Value) (Q : Nat → Own → World → Prop) (Next : Pos → Prop)
def StopM (chs : List Nat) : MK → Pos → Prop
  | some (some (some (.inl s))) => MStop P Wg z Q Next s chs
  | some (some (some (.inr (.inl (n, op))))) => CStop P Wg chs.length Next n op
  | some (some (some (.inr (.inr (.inl N))))) => W1Stop P (EvMn Wg) 125 Wg Next N
  | some (some (some (.inr (.inr (.inr (n, N)))))) => W2Stop P (EvMn Wg) 125 Wg Next n (W1Stop P (EvMn Wg) 125 Wg Next N)
  | none => W3Stop P (EvMn Wg) 125 Wg Next
  | some none => W4Stop P (EvMn Wg) 125 Wg Next
  | some (some none) => AcqStop P (EvMn Wg) Wg Next
variable (Shun : Loc → Prop) (L0 : Nat)
/-- Behind the word that takes over. -/
def Aft (n : Nat) (m : Machine) (t : Trace) : Prop := ∃ gs w sl a O q, ∃ Ow : Nat → Own, m = crowd gs w sl ∧ gs.size = L0 + n ∧ Bes P (fun l => Shun l ∨ ShN Wg l) ⟨O, 0, a, w⟩ gs t q ∧ Run P true (EvMn Wg) Next ⟨O, 0, a, w⟩ ∧
  (∀ k, k < n → Q k (Ow k) w ∧ Far (Ow k) O w ∧ NoSh (fun l => Shun l ∨ ShN Wg l) (Ow k)) ∧ ∀ j k, j < n → k < n → j ≠ k → Dj (Ow j) (Ow k)
def Nx (tot : Nat) (μ : Me) (m' : Machine) (t' : Trace) : Prop :=
  (∃ gs' w' sl' chs' M' TM' D' Ow' own' q0', m' = crowd gs' w' sl' ∧ Inv P Wg z Q Next Shun L0 gs' w' t' chs' M' TM' D' Ow' own' q0' ∧ chs'.length + goesM M' = tot ∧ Relation.TransGen Lt4 (meas L0 gs' chs'.length M' TM' D' q0') μ) ∨ Aft P Wg Q Next Shun L0 tot m' t'
end defs

section
variable {P : Program} {Wg : Nat} {z : Value} {Q : Nat → Own → World → Prop} {Next : Pos → Prop} {Shun : Loc → Prop} {L0 : Nat}
  {gs : Array Goroutine} {w : World} {t : Trace} {chs : List Nat} {M : MK} {TM : Tree} {D : Nat → WD} {Ow : Nat → Own} {own : Loc → Nat} {q0 : Nat → Nat} {sl : Option (Nat × Nat)}

theorem StopM.running {y : Pos} (h : StopM P Wg z Q Next chs M y) : y.g.status = .running := by
  cases M using MK.cs with
  | script s => exact MStop.running h
  | shut n op => exact CStop.running h
  | w1 N => exact W1Stop.running h
  | w2 n N => exact h.2.1
  | w3 => exact h.2.1
  | w4 => exact h.2.1
  | acq => exact h.2.1

theorem MSit.run {O : Own} {d : Nat} {a : Goroutine} (h : MSit P Wg z Q Next chs M TM O d w a) (hr : a.status = .running) : RunSit P true (EvMn Wg) (StopM P Wg z Q Next chs M) TM O d w a := by
  cases M using MK.cs with
  | script s =>
    rcases h with h | ⟨_, _, _, _, _, _, _, _, _, rfl⟩
    · exact h
    · cases hr
  | w3 =>
    rcases h with h | ⟨_, _, _, rfl⟩
    · exact h
    · cases hr
  | _ => exact h
theorem RunSit.msit {O : Own} {d : Nat} {a : Goroutine} (h : RunSit P true (EvMn Wg) (StopM P Wg z Q Next chs M) TM O d w a) : MSit P Wg z Q Next chs M TM O d w a := by
  cases M using MK.cs with
  | script s => exact .inl h
  | w3 => exact .inl h
  | _ => exact h

theorem fb_ch {c : Nat} (h : c ∈ chs) : FbM Wg chs M c := by
  cases M using MK.cs with
  | script s => exact h
  | _ => exact .inl h
theorem fb_wg (h : ∀ s, M ≠ .script s) : FbM Wg chs M Wg := by
  cases M using MK.cs with
  | script s => exact absurd rfl (h s)
  | _ => exact .inr rfl

theorem Inv.at (hQ : ∀ k, Steady (Q k) Wg) (h : Inv P Wg z Q Next Shun L0 gs w t chs M TM D Ow own q0) (d : Nat) : Inv P Wg z Q Next Shun L0 gs (w.at d) t chs M TM D Ow own q0 := by
  refine ⟨h.l0, h.size, ?_, fun k c hc => ?_, h.old, h.above, h.ti, h.rl, h.ow, h.cho, h.nw, h.wgl, h.nwc, h.nd, h.ch, h.par, h.both, h.rcv, h.mode.of_heap (.inr rfl) id, h.len, h.sok⟩
  · obtain ⟨a, h1, h2⟩ := h.main
    exact ⟨a, h1, h2.rely (rely_at _ _ _)⟩
  · obtain ⟨g, h1, h2⟩ := h.wk k c hc
    exact ⟨g, h1, h2.rely (hQ k) (rely_at _ _ _)⟩

theorem Inv.wgsame (h : Inv P Wg z Q Next Shun L0 gs w t chs M TM D Ow own q0) {i : Nat} (hi : Act L0 chs.length i) {O' : Own} {w' : World} (g : Guar (Ow i) O' w w') : (∃ s, M = .script s) ∨ w'.heap[Wg]? = w.heap[Wg]? := by
  rcases Classical.em (∃ s, M = .script s) with e | e
  · exact .inl e
  · obtain ⟨h1, h2⟩ := h.ow.fb Wg (fb_wg fun s hs => e ⟨s, hs⟩)
    exact .inr (g.blk Wg h1 (h2 i hi).1 (h2 i hi).2)

theorem Inv.chsame (h : Inv P Wg z Q Next Shun L0 gs w t chs M TM D Ow own q0) {i : Nat} (hi : Act L0 chs.length i) {O' : Own} {w' : World} (g : Guar (Ow i) O' w w') : ∀ c ∈ chs, ∃ s, w'.heap[c]? = some (.chan 0 #[] (shutB M c) s s false) := by
  intro c hc
  obtain ⟨h1, h2⟩ := h.ow.fb c (fb_ch hc)
  obtain ⟨s, hs⟩ := h.ch c hc
  exact ⟨s, (g.blk c h1 (h2 i hi).1 (h2 i hi).2).trans hs⟩

/-- The starter's idle step. -/
theorem main_idle (hQ : ∀ k, Steady (Q k) Wg) {f : World → Tree} (h : Inv P Wg z Q Next Shun L0 gs w t chs M (.node f) D Ow own q0) {a : Goroutine} (ha : gs[0]? = some a) (hr : a.status = .running) :
    ∃ m' ops, runT P (crowd gs w sl) 0 = (.next m', ops) ∧ Nx P Wg z Q Next Shun L0 (chs.length + goesM M) (meas L0 gs chs.length M (.node f) D q0) m' (t ++ ops) := by
  obtain ⟨b, hb, hm⟩ := h.main
  rw [ha] at hb; cases hb
  obtain ⟨a', w', O', es, hst, hgu, hev, hrs⟩ := RunSit.node (fun y => StopM.running) (hm.run hr)
  have hI := h.stepM hQ ha hgu.size hgu.grows (fun b hb => h.ow.x 0 (act0 _) b (hgu.ownX b hb)) rfl (fun k hk => (h.ow.far (act0 _) (actk hk) (by have := h.l0; omega) rfl).rely hgu) (fun e he => ⟨fun x hx => ((hev e he).1 x hx).imp id fun y => ⟨y.1, .inl y.2⟩, (hev e he).2⟩) hrs.msit (h.chsame (act0 _) hgu)
    (fun k c g hc hg hb => h.par k c g hc hg (woken_blocked hb)) (fun _ _ _ _ => hrs.1) h.rcv (h.mode.of_heap (h.wgsame (act0 _) hgu) fun _ => ⟨a', rfl, hrs.1⟩) h.len h.sok
  exact ⟨_, _, runT_crowd_go (sl := sl) (i := 0) ha hst, .inl ⟨_, w', sl, chs, M, f w, D, _, _, q0, rfl, hI, rfl, .single (lt4_tree rfl (step_main _ f w D))⟩⟩

/-- What the starter's step at a stop does to the machine where neither a channel nor an owner turns. -/
theorem main_go (hQ : ∀ k, Steady (Q k) Wg) (h : Inv P Wg z Q Next Shun L0 gs w t chs M TM D Ow own q0) {a a' : Goroutine} {w' : World} {es : Array Event} {M' : MK} {TM' : Tree} (ha : gs[0]? = some a) (hst : stepG P true a w = .go a' w' es)
    (hn : ∀ s, M ≠ .script s) (hn' : ∀ s, M' ≠ .script s) (hw' : w' = w ∨ ∃ i v st sm, w' = w.setCell ⟨Wg, i, none⟩ v ∧ WgAt 125 Wg w' st sm)
    (hes : ∀ e ∈ es, (∀ x, (MemAct.ofEvent e).touch? = some x → ShN Wg x.loc ∧ x.kind ≠ .plain) ∧ e.loc ≠ .mark (.release (stA Wg))) (hm : MSit P Wg z Q Next chs M' TM' (Ow 0) (deafBehind (Deaf t 0) es) w' a') (hsh : ∀ c, shutB M' c = shutB M c)
    (hmode : Mode Wg chs.length D w' (∃ b, some a' = some b ∧ b.status = .running) M') (hso : ShutOk chs M') (hlt : Relation.TransGen Lt4 (meas L0 ((gs.map (woken P a a' w')).setIfInBounds 0 a') chs.length M' TM' D q0) (meas L0 gs chs.length M TM D q0)) :
    ∃ m' ops, runT P (crowd gs w sl) 0 = (.next m', ops) ∧ Nx P Wg z Q Next Shun L0 (chs.length + goesM M) (meas L0 gs chs.length M TM D q0) m' (t ++ ops) := by
  have hF : FbM Wg chs M' = FbM Wg chs M := by
    cases M using MK.cs <;> cases M' using MK.cs <;> first | rfl | exact absurd rfl (hn _) | exact absurd rfl (hn' _)
  have hgo : goesM M' = goesM M := by
    cases M using MK.cs <;> cases M' using MK.cs <;> first | rfl | exact absurd rfl (hn _) | exact absurd rfl (hn' _)
  have hva : valsM M' = valsM M := by
    cases M using MK.cs <;> cases M' using MK.cs <;> first | rfl | exact absurd rfl (hn _) | exact absurd rfl (hn' _)
  have hwfb := h.ow.fb Wg (fb_wg hn)
  have hsz : w'.heap.size = w.heap.size := by
    rcases hw' with rfl | ⟨i, v, _, _, rfl, _⟩
    · rfl
    · simp [World.setCell]
  have hre : ∀ i, Act L0 chs.length i → Rely (Ow i) w w' := by
    intro i hi
    rcases hw' with rfl | ⟨j, v, st, sm, rfl, hw⟩
    · exact Rely.refl _ _
    · exact rely_wg (hwfb.2 i hi).1 (hwfb.2 i hi).2 hw
  have hcs : ∀ c ∈ chs, w'.heap[c]? = w.heap[c]? := by
    intro c hc
    rcases hw' with rfl | ⟨j, v, st, sm, rfl, hw⟩
    · rfl
    · have : Wg ≠ c := fun e => h.nwc (e ▸ hc)
      unfold World.setCell
      simp only
      rw [Array.getElem?_modify, if_neg this]
  have hI := h.stepM hQ (O' := Ow 0) (es := es) (a' := a') (M' := M') (TM' := TM') ha (Nat.le_of_eq hsz.symm) (Grows.refl _ _ _) (fun b hb => h.ow.x 0 (act0 _) b hb) hF (fun k hk => hre _ (actk hk)) (fun e he => ⟨fun x hx => .inl ((hes e he).1 x hx), (hes e he).2⟩) hm (fun c hc => by rw [hcs c hc, hsh]; exact h.ch c hc)
    (fun k c g hc hg hb => by rw [hsh]; exact h.par k c g hc hg (woken_blocked hb)) (fun k v s' e => absurd e (hn' _)) (fun k c hc => by rw [hsh, hva]; exact h.rcv k c hc) hmode (by rw [hgo]; exact h.len) hso
  exact ⟨_, _, runT_crowd_go (sl := sl) (i := 0) ha hst, .inl ⟨_, w', sl, chs, M', TM', D, _, _, q0, rfl, hI, by rw [hgo], hlt⟩⟩
end

end Go.Proofs.Ytgpplekabohneaa.Co

namespace Go.Proofs.Ytgpplekabohneaa.Co
open Go Go.Conc Go.ConcN
open Go.ConcR (KK WgAt stA smA rd wr)

theorem touch_rd {Wg : Nat} (a : Addr) (h : a.block = Wg) : (∀ x, (MemAct.ofEvent (rd a)).touch? = some x → ShN Wg x.loc ∧ x.kind ≠ .plain ∧ x.kind ≠ .said) ∧ (rd a).loc ≠ .mark (.release (stA Wg)) := by
  refine ⟨fun x hx => ?_, by simp [rd]⟩
  simp only [rd, MemAct.ofEvent, MemAct.touch?, Option.some.injEq] at hx
  subst hx
  exact ⟨⟨a, rfl, h⟩, by simp, by simp⟩
theorem touch_wr {Wg : Nat} (a : Addr) (h : a.block = Wg) : (∀ x, (MemAct.ofEvent (wr a)).touch? = some x → ShN Wg x.loc ∧ x.kind ≠ .plain ∧ x.kind ≠ .said) ∧ (wr a).loc ≠ .mark (.release (stA Wg)) := by
  refine ⟨fun x hx => ?_, by simp [wr]⟩
  simp only [wr, MemAct.ofEvent, MemAct.touch?, Option.some.injEq] at hx
  subst hx
  exact ⟨⟨a, rfl, h⟩, by simp, by simp⟩
theorem touch_sem {Wg : Nat} (a : Addr) (h : a.block = Wg) : ∀ e ∈ semEvents a, (∀ x, (MemAct.ofEvent e).touch? = some x → ShN Wg x.loc ∧ x.kind ≠ .plain ∧ x.kind ≠ .said) ∧ e.loc ≠ .mark (.release (stA Wg)) := by
  intro e he
  simp only [semEvents, List.mem_toArray, List.mem_cons, List.not_mem_nil, or_false] at he
  rcases he with rfl | rfl | rfl | rfl
  · exact ⟨fun x hx => by simp [MemAct.ofEvent, MemAct.touch?] at hx, by simp⟩
  · exact touch_rd a h
  · exact touch_wr a h
  · exact ⟨fun x hx => by simp [MemAct.ofEvent, MemAct.touch?] at hx, by simp⟩

theorem deaf_rd (d : Nat) (a : Addr) : deafBehind d #[rd a] = d := rfl
theorem deaf_wr (d : Nat) (a : Addr) : deafBehind d #[wr a] = d := rfl
theorem deaf_rw (d : Nat) (a b : Addr) : deafBehind d #[rd a, wr b] = d := rfl
theorem deaf_sem (d : Nat) (a : Addr) : deafBehind d (semEvents a) = d := by simp [deafBehind, semEvents]
theorem deaf_close (d c : Nat) : deafBehind d (closeEvents c) = d := rfl

section
variable {P : Program} {Wg : Nat} {z : Value} {Q : Nat → Own → World → Prop} {Next : Pos → Prop} {Shun : Loc → Prop} {L0 : Nat}
  {gs : Array Goroutine} {w : World} {t : Trace} {chs : List Nat} {M : MK} {TM : Tree} {D : Nat → WD} {Ow : Nat → Own} {own : Loc → Nat} {q0 : Nat → Nat} {sl : Option (Nat × Nat)}

theorem run_msit {O : Own} {d : Nat} {g : Goroutine} (h : Run P true (EvMn Wg) (StopM P Wg z Q Next chs M) ⟨O, d, g, w⟩) : ∃ T, MSit P Wg z Q Next chs M T O d w g ∧ g.status = .running := by
  obtain ⟨T, hT⟩ := h.sit fun y => StopM.running
  exact ⟨T, hT.msit, hT.1⟩

/-- .. where the rank falls. -/
theorem main_rank (hQ : ∀ k, Steady (Q k) Wg) (h : Inv P Wg z Q Next Shun L0 gs w t chs M TM D Ow own q0) {a a' : Goroutine} {w' : World} {es : Array Event} {M' : MK} (ha : gs[0]? = some a) (hst : stepG P true a w = .go a' w' es)
    (hn : ∀ s, M ≠ .script s) (hn' : ∀ s, M' ≠ .script s) (hw' : w' = w ∨ ∃ i v st sm, w' = w.setCell ⟨Wg, i, none⟩ v ∧ WgAt 125 Wg w' st sm)
    (hes : ∀ e ∈ es, (∀ x, (MemAct.ofEvent e).touch? = some x → ShN Wg x.loc ∧ x.kind ≠ .plain ∧ x.kind ≠ .said) ∧ e.loc ≠ .mark (.release (stA Wg))) {d : Nat} (hd : deafBehind (Deaf t 0) es = d) (hm : Run P true (EvMn Wg) (StopM P Wg z Q Next chs M') ⟨Ow 0, d, a', w⟩) (hsh : ∀ c, shutB M' c = shutB M c)
    (hmode : Mode Wg chs.length D w' True M') (hso : ShutOk chs M') (hlt : mrank chs.length M' < mrank chs.length M) :
    ∃ m' ops, runT P (crowd gs w sl) 0 = (.next m', ops) ∧ Nx P Wg z Q Next Shun L0 (chs.length + goesM M) (meas L0 gs chs.length M TM D q0) m' (t ++ ops) := by
  have hre : Rely (Ow 0) w w' := by
    rcases hw' with rfl | ⟨j, v, st, sm, rfl, hw⟩
    · exact Rely.refl _ _
    · have := (h.ow.fb Wg (fb_wg hn)).2 0 (act0 _)
      exact rely_wg this.1 this.2 hw
  obtain ⟨T, hT, hr⟩ := run_msit (hm.rely hre)
  refine main_go hQ h ha hst hn hn' hw' (fun e he => ⟨fun x hx => ⟨((hes e he).1 x hx).1, ((hes e he).1 x hx).2.1⟩, (hes e he).2⟩) (by rw [hd]; exact hT) hsh (hmode.of_heap (.inr rfl) fun _ => ⟨a', rfl, hr⟩) hso (.single (lt4_rank ?_))
  omega

theorem all_quit {n : Nat} (h : cnt n D = 0) (ha : ∀ k, k < n → counted (D k).k = true ∨ (D k).k = .quit) : ∀ k, k < n → (D k).k = .quit := by
  intro k hk
  rcases ha k hk with x | x
  · rw [cnt_zero h hk] at x; cases x
  · exact x

/-- The starter at a stop behind its script. -/
theorem main_stop (hQ : ∀ k, Steady (Q k) Wg) (h : Inv P Wg z Q Next Shun L0 gs w t chs M .leaf D Ow own q0) (hn : ∀ s, M ≠ .script s) {a : Goroutine} (ha : gs[0]? = some a) (hr : a.status = .running) :
    ∃ m' ops, runT P (crowd gs w sl) 0 = (.next m', ops) ∧ Nx P Wg z Q Next Shun L0 (chs.length + goesM M) (meas L0 gs chs.length M .leaf D q0) m' (t ++ ops) := by
  obtain ⟨b, hb, hm⟩ := h.main
  rw [ha] at hb; cases hb
  obtain ⟨g0, hs, hst⟩ := RunSit.leaf (hm.run hr)
  have hmode := h.mode
  cases M using MK.cs with
  | script s => exact absurd rfl (hn s)
  | shut n op =>
    obtain ⟨s1, s2, s3, s4⟩ := h.sok
    cases n with
    | zero => omega
    | succ n =>
      obtain ⟨d0, _, hmw, c, hc, g', hg', hstep, hrun⟩ := hst
      dsimp only at d0 hmw hstep hrun
      have hcc : c ∈ chs := s2 c hc
      obtain ⟨s, hs0⟩ := h.ch c hcc
      have hsh : shutB (.shut (n + 1) op) c = false := by simp [shutB, hc]
      rw [hsh] at hs0
      have hst' : stepG P true a w = .go g' (w.setChan c 0 #[] true s s false) (closeEvents c) := by rw [hs.step]; exact hstep w s hs0
      have hwk : mayWake P a = true := by
        have : mayWake P a = mayWake P g0 := by unfold mayWake; rw [hs.1]
        rw [this]; exact hmw
      obtain ⟨hfb1, hfb2⟩ := h.ow.fb c (fb_ch hcc)
      have hcw : Wg ≠ c := fun e => h.nwc (e ▸ hcc)
      have hne : ∀ x, x ≠ c → (w.setChan c 0 #[] true s s false).heap[x]? = w.heap[x]? := fun x hx => by
        unfold World.setChan
        dsimp only
        rw [Array.getElem?_setIfInBounds_ne (Ne.symm hx)]
      have heq : (w.setChan c 0 #[] true s s false).heap[c]? = some (.chan 0 #[] true s s false) := by
        unfold World.setChan
        dsimp only
        rw [Array.getElem?_setIfInBounds_self_of_lt hfb1]
      have hre : ∀ i, Act L0 chs.length i → Rely (Ow i) w (w.setChan c 0 #[] true s s false) := fun i hi => rely_chan hs0 (hfb2 i hi).1 (hfb2 i hi).2
      let M' : MK := if n = 0 then .w1 chs.length else .shut n (op.erase c)
      have hM'0 : n = 0 → M' = .w1 chs.length := fun e => if_pos e
      have hM'1 : n ≠ 0 → M' = .shut n (op.erase c) := fun e => if_neg e
      have hrun' : Run P true (EvMn Wg) (StopM P Wg z Q Next chs M') ⟨Ow 0, 0, g', w⟩ := by
        by_cases h0 : n = 0
        · subst h0; rw [hM'0 rfl]; exact hrun
        · rw [hM'1 h0]; exact hrun
      have hsb : ∀ c', shutB M' c' = (shutB (.shut (n + 1) op) c' || c' == c) := by
        intro c'
        by_cases h0 : n = 0
        · rw [hM'0 h0]
          have hl : op.length = 1 := by omega
          obtain ⟨y, rfl⟩ := List.length_eq_one_iff.1 hl
          simp at hc
          subst hc
          by_cases e : c' = c <;> simp [shutB, e]
        · rw [hM'1 h0]
          by_cases e : c' = c
          · subst e
            have : c' ∉ op.erase c' := s3.not_mem_erase
            simp [shutB, this]
          · simp [shutB, List.mem_erase_of_ne e, e]
      obtain ⟨T, hT, hr'⟩ := run_msit (hrun'.rely (hre 0 (act0 _)))
      have hF : FbM Wg chs M' = FbM Wg chs (.shut (n + 1) op) := by
        by_cases h0 : n = 0
        · rw [hM'0 h0]; rfl
        · rw [hM'1 h0]; rfl
      have hgo : goesM M' = 0 := by
        by_cases h0 : n = 0
        · rw [hM'0 h0]; rfl
        · rw [hM'1 h0]; rfl
      have hva : valsM M' = valsM (.shut (n + 1) op) := by
        by_cases h0 : n = 0
        · rw [hM'0 h0]; rfl
        · rw [hM'1 h0]; rfl
      have hns : ∀ s, M' ≠ .script s := fun s e => by
        by_cases h0 : n = 0
        · rw [hM'0 h0] at e; cases e
        · rw [hM'1 h0] at e; cases e
      have hd0 : Deaf t 0 = 0 := d0
      have hI := h.stepM hQ (O' := Ow 0) (es := closeEvents c) (a' := g') (M' := M') (TM' := T) (w' := w.setChan c 0 #[] true s s false) ha (by simp [World.setChan]) (Grows.refl _ _ _) (fun b hb => h.ow.x 0 (act0 _) b hb) hF (fun k hk => hre _ (actk hk))
        (fun e he => by
          simp only [closeEvents, List.mem_toArray, List.mem_cons, List.not_mem_nil, or_false] at he
          rcases he with rfl | rfl
          · refine ⟨fun x hx => .inr ?_, by simp⟩
            simp only [MemAct.ofEvent, MemAct.touch?, Option.some.injEq] at hx
            subst hx
            exact ⟨(by rintro ⟨_, hx, _⟩; cases hx), .inr ⟨c, hcc, rfl⟩⟩
          · exact ⟨fun x hx => by simp [MemAct.ofEvent, MemAct.touch?] at hx, by simp⟩)
        (by rw [deaf_close, hd0]; exact hT)
        (fun c' hc' => by
          rw [hsb]
          by_cases e : c' = c
          · subst e; exact ⟨s, by rw [heq]; simp⟩
          · obtain ⟨s', hs'⟩ := h.ch c' hc'
            exact ⟨s', by rw [hne c' e, hs']; simp [e]⟩)
        (fun k c' g hk hg hb => by
          rw [hsb]
          have hbl := woken_blocked hb
          by_cases e : c' = c
          · subst e
            obtain ⟨y, hy, hsit⟩ := h.wk k c' hk
            rw [hg] at hy; cases hy
            rcases hsit.status with x | ⟨l, g1, _, x⟩ | ⟨_, x⟩
            · rw [x] at hbl; cases hbl
            · subst x
              have : (woken P a g' (w.setChan c' 0 #[] true s s false) (parked g1 #[rcase c' z] (.recv true))).status = .running := by
                have hcond : (mayWake P a && g'.status != .blocked && g'.status != .waiting) = true := by rw [hwk, hg']; rfl
                unfold woken
                rw [if_pos hcond, again_recv_closed heq]
              rw [this] at hb; cases hb
            · rw [x] at hbl; cases hbl
          · rw [h.par k c' g hk hg hbl]; simp [e])
        (fun k v s' e => absurd e (hns _)) (fun k c' hc' => by rw [hva]; exact ⟨(h.rcv k c' hc').1, fun x => (h.rcv k c' hc').2 (by rw [hsb] at x; simp at x; exact x.1)⟩)
        (by
          obtain ⟨m1, m2⟩ := hmode
          have m1' : WgAt 125 Wg (w.setChan c 0 #[] true s s false) ((cnt chs.length D : Int) * KK) 0 := (hne Wg hcw).trans m1
          by_cases h0 : n = 0
          · rw [hM'0 h0]; exact ⟨cnt_le _ _, m1', m2⟩
          · rw [hM'1 h0]; exact ⟨m1', m2⟩)
        (by rw [hgo]; have := h.len; simp only [goesM] at this; omega)
        (by
          by_cases h0 : n = 0
          · rw [hM'0 h0]; trivial
          · rw [hM'1 h0]
            exact ⟨by rw [List.length_erase_of_mem hc, s1]; rfl, fun x hx => s2 x (List.mem_of_mem_erase hx), s3.erase c, by omega⟩)
      refine ⟨_, _, runT_crowd_go (sl := sl) (i := 0) ha hst', .inl ⟨_, _, sl, chs, M', T, D, _, _, q0, rfl, hI, by rw [hgo]; rfl, .single (lt4_rank ?_)⟩⟩
      by_cases h0 : n = 0
      · rw [hM'0 h0]; simp only [mrank]; omega
      · rw [hM'1 h0]; simp only [mrank]; omega
  | w1 N =>
    obtain ⟨m1, m2, m3⟩ := hmode
    have hz : W1Zero P (EvMn Wg) 125 Wg Next ⟨Ow 0, Deaf t 0, g0, w⟩ ∧ Deaf t 0 = 1 := by
      cases N with
      | zero => exact ⟨hst.2.2, hst.1⟩
      | succ N => exact ⟨hst.2.2.1, hst.1⟩
    by_cases h0 : cnt chs.length D = 0
    · obtain ⟨⟨g', e1, e2⟩, hd⟩ := hz
      dsimp only at e1 e2
      rw [h0] at m2
      exact main_rank hQ h (M' := .acq) ha (by rw [hs.step]; exact e1 w (by simpa using m2)) (by simp) (by simp) (.inl rfl) (fun e he => by simp at he; subst he; exact touch_rd _ rfl) (d := 1) (by rw [deaf_rd, hd]) e2 (fun _ => rfl) (all_quit h0 m3) trivial (by simp only [mrank]; omega)
    · cases N with
      | zero => omega
      | succ N =>
        obtain ⟨hd, _, _, hk⟩ := hst
        obtain ⟨g', e1, e2⟩ := hk (cnt chs.length D) (by omega) m1
        dsimp only at e1 e2 hd
        exact main_rank hQ h (M' := .w2 (cnt chs.length D) N) ha (by rw [hs.step]; exact e1 w m2) (by simp) (by simp) (.inl rfl) (fun e he => by simp at he; subst he; exact touch_rd _ rfl) (d := 1) (by rw [deaf_rd, hd]) e2 (fun _ => rfl) ⟨⟨by omega, m1, Nat.le_refl _⟩, m2, m3⟩ trivial (by simp only [mrank]; omega)
  | w2 m N =>
    obtain ⟨⟨m1, m1', m1''⟩, m2, m3⟩ := hmode
    obtain ⟨hd, _, ⟨g1, e1, e2⟩, g2, f1, f2⟩ := hst
    dsimp only at e1 e2 f1 f2 hd
    by_cases h0 : cnt chs.length D = m
    · rw [h0] at m2
      exact main_rank hQ h (M' := .w3) ha (by rw [hs.step]; exact e1 w m2) (by simp) (by simp) (.inr ⟨0, _, _, _, rfl, m2.setSt _⟩) (fun e he => by simp at he; exact he.elim (fun e => e ▸ touch_rd _ rfl) (fun e => e ▸ touch_wr _ rfl)) (d := 1) (by rw [deaf_rw, hd]) e2 (fun _ => rfl) (.inl ⟨by omega, by rw [h0]; exact m2.setSt _, m3⟩) trivial (by simp only [mrank]; omega)
    · exact main_rank hQ h (M' := .w1 N) ha (by rw [hs.step]; exact f1 w _ h0 (by have := cnt_le chs.length D; have := h.len; omega) m2) (by simp) (by simp) (.inl rfl) (fun e he => by simp at he; subst he; exact touch_rd _ rfl) (d := 1) (by rw [deaf_rd, hd]) f2 (fun _ => rfl) ⟨by omega, m2, m3⟩ trivial (by simp only [mrank]; omega)
  | w3 =>
    obtain ⟨hd, hg0r, hof, hbl, g', f1, f2⟩ := hst
    dsimp only at hbl f1 f2 hd hof hg0r
    have block : ∀ st, WgAt 125 Wg w st 0 → (∃ (r : Prop), (r → ∃ b, some ({ g0 with status := .blocked } : Goroutine) = some b ∧ b.status = .running) ∧ Mode Wg chs.length D w r .w3) → ∃ m' ops, runT P (crowd gs w sl) 0 = (.next m', ops) ∧ Nx P Wg z Q Next Shun L0 (chs.length + goesM .w3) (meas L0 gs chs.length .w3 .leaf D q0) m' (t ++ ops) := by
      rintro st hw ⟨r, hr1, hr2⟩
      obtain ⟨_, g00, hs00, hfit⟩ := hm.run hr
      have hst' : stepG P true a w = .go { g0 with status := .blocked } w #[] := by rw [hs.step]; exact hbl w st hw
      have hst00 : StopM P Wg z Q Next chs .w3 ⟨Ow 0, Deaf t 0, g00, w⟩ := hfit w (Rely.refl _ _)
      have hfit0 : Fits P true (EvMn Wg) (W3Stop P (EvMn Wg) 125 Wg Next) .leaf ⟨Ow 0, Deaf t 0, g00, w⟩ := hfit
      have hst2 : stepG P true a w = .go { g00 with status := .blocked } w #[] := by rw [hs00.step]; exact hst00.2.2.2.1 w st hw
      have hidm : ∀ y, woken P a ({ g00 with status := .blocked } : Goroutine) w y = y := fun y => by
        unfold woken
        rw [if_neg (by simp)]
      have hmap : gs.map (woken P a ({ g00 with status := .blocked } : Goroutine) w) = gs := by
        have : (woken P a ({ g00 with status := .blocked } : Goroutine) w) = id := funext hidm
        rw [this, Array.map_id]
      have heq0 : ({ g0 with status := .blocked } : Goroutine) = { g00 with status := .blocked } := by
        rw [hst'] at hst2
        injection hst2
      refine main_go hQ h (M' := .w3) (TM' := .leaf) ha hst2 (by simp) (by simp) (.inl rfl) (by simp) (.inr ⟨rfl, g00, hfit0, rfl⟩) (fun _ => rfl) (hr2.of_heap (.inr rfl) (by rw [← heq0]; exact hr1)) trivial (.single (lt4_bit rfl rfl rfl ?_))
      rw [hmap]
      exact bits_park ha hr rfl
    rcases hmode with ⟨a1, a2, a3⟩ | ⟨j, a1, a2, ⟨a3, a4⟩ | ⟨a3, a4⟩⟩ | ⟨a1, a2, a3⟩
    · exact block _ a2 ⟨False, fun x => x.elim, .inl ⟨a1, a2, a3⟩⟩
    · exact block _ a4 ⟨False, fun x => x.elim, .inr (.inl ⟨j, a1, a2, .inl ⟨a3, a4⟩⟩)⟩
    · exact block _ a4 ⟨False, fun x => x.elim, .inr (.inl ⟨j, a1, a2, .inr ⟨a3, a4⟩⟩)⟩
    · exact main_rank hQ h (M' := .w4) ha (by rw [hs.step]; exact f1 w a2) (by simp) (by simp) (.inr ⟨1, _, _, _, rfl, a2.setSm _⟩) (touch_sem _ rfl) (d := 1) (by rw [deaf_sem, hd]) f2 (fun _ => rfl) ⟨a1, a2.setSm _⟩ trivial (by simp only [mrank]; omega)
  | w4 =>
    obtain ⟨hd, _, g', f1, f2⟩ := hst
    dsimp only at f1 f2 hd
    obtain ⟨a1, a2⟩ := hmode
    exact main_rank hQ h (M' := .acq) ha (by rw [hs.step]; exact f1 w a2) (by simp) (by simp) (.inl rfl) (fun e he => by simp at he; subst he; exact touch_rd _ rfl) (d := 1) (by rw [deaf_rd, hd]) f2 (fun _ => rfl) a1 trivial (by simp only [mrank]; omega)
  | acq =>
    obtain ⟨hd, _, g', f1, f2⟩ := hst
    dsimp only at f1 f2 hd
    have hst' : stepG P true a w = .go g' w #[Go.ConcR.mk (.acquire (stA Wg))] := by rw [hs.step]; exact f1 w
    have hlt : 0 < gs.size := (Array.getElem?_eq_some_iff.1 ha).1
    have l0 := h.l0
    have hquit : ∀ k c, chs[k]? = some c → ∃ g, gs[L0 + k]? = some g ∧ QuitsD P (D k).q (Deaf t (L0 + k)) g ∧ Q k (Ow (L0 + k)) w := by
      intro k c hc
      obtain ⟨g, g1, g2⟩ := h.wk k c hc
      have := hmode k (lt_chs hc)
      unfold WSit at g2
      rw [this] at g2
      exact ⟨g, g1, g2⟩
    have dk : ∀ j, j ≠ 0 → Deaf (t ++ MemOp.ofEvents 0 a.frame.fn a.frame.place #[Go.ConcR.mk (.acquire (stA Wg))]) j = Deaf t j := fun j hj => Deaf_other t (Ne.symm hj) _ ops_g
    have hcalm := h.ti.calm hlt (fun k hk hkn => by
      obtain ⟨k', rfl⟩ : ∃ k', k = L0 + k' := ⟨k - L0, by omega⟩
      have hk' : k' < chs.length := by have := h.size; omega
      exact ⟨_, h.rl k' hk' (by rw [hmode k' hk']; rfl)⟩) hd a.frame.fn a.frame.place
    refine ⟨_, _, runT_crowd_go (sl := sl) (i := 0) ha hst', .inr ⟨_, w, sl, g', Ow 0, fun i => if i < L0 then q0 i else (D (i - L0)).q, fun k => Ow (L0 + k), rfl, ?_, ⟨get_eq hlt, ⟨fun j y hj hy => ?_, fun j hj => ?_⟩, hcalm, by rw [Deaf_own, hd]; rfl, ⟨(h.ow.lies 0 (act0 _)).1, (h.ow.lies 0 (act0 _)).2⟩, fun l hl hs => ?_, fun l hl => ?_⟩, f2, fun k hk => ?_, fun j k hj hk hne => ?_⟩⟩
    · simp only [goesM]; simp [h.size]
    · rw [get_ne (by omega)] at hy
      obtain ⟨y', hy', rfl⟩ := Option.map_eq_some_iff.1 hy
      rw [dk j (by omega)]
      by_cases hjl : j < L0
      · have hq := h.old j y' hj hjl hy'
        rw [woken_quitsD hq]
        simp only [hjl, if_true]
        exact hq
      · obtain ⟨k, rfl⟩ : ∃ k, j = L0 + k := ⟨j - L0, by omega⟩
        have hk : k < chs.length := by have := (Array.getElem?_eq_some_iff.1 hy').1; have := h.size; omega
        obtain ⟨c, hc⟩ := get_chs hk
        obtain ⟨g, g1, g2, _⟩ := hquit k c hc
        rw [hy'] at g1; cases g1
        rw [woken_quitsD g2]
        simp only [hjl, if_false, Nat.add_sub_cancel_left]
        exact g2
    · rw [dk j (by simp at hj; omega)]
      exact h.above j (by simpa using hj)
    · rcases hs with hs | hs
      · exact h.ow.nosh 0 (act0 _) l hl hs
      · obtain ⟨b, rfl, hb⟩ := hs
        have := (h.ow.fb Wg (.inr rfl)).2 0 (act0 _)
        rcases hl with x | x
        · rw [hb] at x; exact this.1 x
        · rw [hb] at x; exact this.2 _ x
    · rcases hl with hl | hl
      · exact h.ow.slow l hl
      · exact shn_low h.wgl hl
    · simp only [goesM, Nat.add_zero] at hk
      obtain ⟨c, hc⟩ := get_chs hk
      obtain ⟨g, g1, g2, g3⟩ := hquit k c hc
      refine ⟨g3, h.ow.far (act0 _) (actk hk) (by omega) rfl, fun l hl hs => ?_⟩
      rcases hs with hs | hs
      · exact h.ow.nosh _ (actk hk) l hl hs
      · obtain ⟨b, rfl, hb⟩ := hs
        have := h.nw k hk
        rcases hl with x | x
        · rw [hb] at x; exact this.1 x
        · rw [hb] at x; exact this.2 _ x
    · simp only [goesM, Nat.add_zero] at hj hk
      exact h.ow.dj _ _ (actk hj) (actk hk) (by omega)
end

end Go.Proofs.Ytgpplekabohneaa.Co
