/- The machine of a batch: the starter's script. · The machine of a batch: a worker's steps. · The machine of a batch: it comes to the word that takes over, on every tape. -/
import Derived.Test.YtgpplekabohneaaYat
namespace Go.Proofs.Ytgpplekabohneaa.Co
open Go Go.Conc Go.ConcN
open Go.ConcR (KK WgAt stA smA rd wr)

section
variable {P : Program} {Wg : Nat} {z : Value} {Q : Nat → Own → World → Prop} {Next : Pos → Prop} {Shun : Loc → Prop} {L0 : Nat}
  {gs : Array Goroutine} {w : World} {t : Trace} {chs : List Nat} {M : MK} {TM : Tree} {D : Nat → WD} {Ow : Nat → Own} {own : Loc → Nat} {q0 : Nat → Nat} {sl : Option (Nat × Nat)}

theorem Nx.mono {tot : Nat} {μ μ' : Me} {m' : Machine} {t' : Trace} (h : Nx P Wg z Q Next Shun L0 tot μ m' t') (hl : Lt4 μ μ') : Nx P Wg z Q Next Shun L0 tot μ' m' t' := by
  rcases h with ⟨a, b, c, d, e, f, g, i, j, k, h1, h2, h3, h4⟩ | h
  · exact .inl ⟨a, b, c, d, e, f, g, i, j, k, h1, h2, h3, h4.tail hl⟩
  · exact .inr h

/-- THE SCRIPT IS DONE: the group is let go. -/
theorem Inv.toShut (h : Inv P Wg z Q Next Shun L0 gs w t chs (.script []) .leaf D Ow own q0) {a : Goroutine} (ha : gs[0]? = some a) (hr : a.status = .running) :
    ∃ M' TM' Ow', (∀ s, M' ≠ .script s) ∧ goesM M' = 0 ∧ Inv P Wg z Q Next Shun L0 gs w t chs M' TM' D Ow' own q0 ∧ Lt4 (meas L0 gs chs.length M' TM' D q0) (meas L0 gs chs.length (.script []) .leaf D q0) := by
  obtain ⟨b, hb, hm⟩ := h.main
  rw [ha] at hb; cases hb
  obtain ⟨g0, hs, d0, _, hB, hC, hwg, hrun⟩ := RunSit.leaf (hm.run hr)
  dsimp only at d0 hB hC hwg hrun
  let M' : MK := if chs.length = 0 then .w1 0 else .shut chs.length chs
  have hM'0 : chs.length = 0 → M' = .w1 0 := fun e => if_pos e
  have hM'1 : chs.length ≠ 0 → M' = .shut chs.length chs := fun e => if_neg e
  have hns : ∀ s, M' ≠ .script s := fun s e => by
    by_cases h0 : chs.length = 0
    · rw [hM'0 h0] at e; cases e
    · rw [hM'1 h0] at e; cases e
  have hgo : goesM M' = 0 := by
    by_cases h0 : chs.length = 0
    · rw [hM'0 h0]; rfl
    · rw [hM'1 h0]; rfl
  have hva : ∀ k, valsM M' k = [] := fun k => by
    by_cases h0 : chs.length = 0
    · rw [hM'0 h0]; rfl
    · rw [hM'1 h0]; rfl
  have hsb : ∀ c ∈ chs, shutB M' c = false := fun c hc => by
    have h0 : chs.length ≠ 0 := fun e => by
      rw [List.length_eq_zero_iff] at e
      subst e; cases hc
    rw [hM'1 h0]; simp [shutB, hc]
  have hrun' : Run P true (EvMn Wg) (StopM P Wg z Q Next chs M') ⟨(Ow 0).free Wg, 0, g0, w⟩ := by
    by_cases h0 : chs.length = 0
    · rw [hM'0 h0]
      rw [h0] at hrun
      exact hrun
    · rw [hM'1 h0]; exact hrun
  have hcn : cnt chs.length D = chs.length := cnt_all fun k hk => by
    obtain ⟨c, hc⟩ := get_chs hk
    obtain ⟨l, hl⟩ := (h.rcv k c hc).2 rfl
    rw [hl]; rfl
  have hall : ∀ k, k < chs.length → counted (D k).k = true ∨ (D k).k = .quit := fun k hk => by
    obtain ⟨c, hc⟩ := get_chs hk
    obtain ⟨l, hl⟩ := (h.rcv k c hc).2 rfl
    rw [hl]; exact .inl rfl
  obtain ⟨T, hT⟩ := hrun'.sit fun y => StopM.running
  have hT' : RunSit P true (EvMn Wg) (StopM P Wg z Q Next chs M') T ((Ow 0).free Wg) 0 w a := by
    obtain ⟨_, g1, e1, e2⟩ := hT
    exact ⟨hr, g1, ⟨hs.1.trans e1.1, hs.2.1.trans e1.2.1, hs.2.2.trans e1.2.2⟩, e2⟩
  have hF : (fun x => FbM Wg chs (.script []) x ∨ x = Wg) = FbM Wg chs M' := by
    by_cases h0 : chs.length = 0
    · rw [hM'0 h0]; rfl
    · rw [hM'1 h0]; rfl
  have how := h.ow.free (act0 _) hB hC (O' := (Ow 0).free Wg) (fun x hx => hx) (fun x o hx => hx) (fun x hx => .inr hx)
  rw [hF] at how
  have l0 := h.l0
  have eK : ∀ k, upd Ow 0 ((Ow 0).free Wg) (L0 + k) = Ow (L0 + k) := fun k => upd_ne _ _ (by omega)
  have hd0 : Deaf t 0 = 0 := d0
  refine ⟨M', T, upd Ow 0 ((Ow 0).free Wg), hns, hgo, ⟨h.l0, h.size, ⟨a, ha, by rw [upd_same, hd0]; exact hT'.msit⟩, fun k c hc => by rw [eK]; exact h.wk k c hc, h.old, h.above, h.ti, h.rl, how, h.cho, fun k hk => by rw [eK]; exact h.nw k hk, h.wgl, h.nwc, h.nd, fun c hc => by rw [hsb c hc]; exact h.ch c hc, fun k c g hc _ _ => hsb c (mem_chs hc), fun k v s' _ _ e => absurd e (hns _), fun k c hc => ⟨fun l hl => by rw [hva]; exact (h.rcv k c hc).1 l hl, fun _ => (h.rcv k c hc).2 rfl⟩, ?_, by rw [hgo]; have := h.len; simp only [goesM, goes] at this; omega, ?_⟩, lt4_rank ?_⟩
  · by_cases h0 : chs.length = 0
    · rw [hM'0 h0]; exact ⟨by rw [hcn, h0]; exact Nat.le_refl _, by rw [hcn]; exact hwg, hall⟩
    · rw [hM'1 h0]; exact ⟨by rw [hcn]; exact hwg, hall⟩
  · by_cases h0 : chs.length = 0
    · rw [hM'0 h0]; trivial
    · rw [hM'1 h0]; exact ⟨rfl, fun _ x => x, h.nd, by omega⟩
  · by_cases h0 : chs.length = 0
    · rw [hM'0 h0]; simp only [mrank, goes, List.length_nil]; omega
    · rw [hM'1 h0]; simp only [mrank, goes, List.length_nil]; omega

/-- A go STATEMENT. -/
theorem main_spawn {s : List Cmd} (h : Inv P Wg z Q Next Shun L0 gs w t chs (.script (.go :: s)) .leaf D Ow own q0) {a : Goroutine} (ha : gs[0]? = some a) (hr : a.status = .running) :
    ∃ m' ops, runT P (crowd gs w sl) 0 = (.next m', ops) ∧ Nx P Wg z Q Next Shun L0 (chs.length + goesM (.script (.go :: s))) (meas L0 gs chs.length (.script (.go :: s)) .leaf D q0) m' (t ++ ops) := by
  obtain ⟨b, hb, hm⟩ := h.main
  rw [ha] at hb; cases hb
  obtain ⟨g0, hs, d0, _, c, g', child, O', Oc, hst, hcO, hcw, hcc, hsp, hwB, hwC, hrun, hwk⟩ := RunSit.leaf (hm.run hr)
  dsimp only at d0 hst hcO hcc hsp hrun hwk
  obtain ⟨T1, hT1⟩ := hrun.sit fun y => MStop.running
  obtain ⟨T2, hT2⟩ := hwk.sit fun y hy => hy.running.2.1
  have hst' : stepG P true a w = .spawn g' child w #[] := by rw [hs.step]; exact hst w
  have hI := h.spawn ha d0 hcO hcw hcc hsp hwB hwC hT1 hT2 (x := { g := 0, fn := a.frame.fn, pos := a.frame.place, act := .go gs.size }) (y := { g := gs.size, fn := child.frame.fn, pos := a.frame.place, act := .start }) ⟨rfl, rfl⟩ ⟨rfl, rfl⟩
  refine ⟨_, _, runT_crowd_spawn (sl := sl) (i := 0) ha hst', .inl ⟨_, w, sl, chs ++ [c], .script s, T1, _, _, _, q0, rfl, hI, ?_, .single (lt4_rank ?_)⟩⟩
  · simp only [goesM, goes, List.length_append, List.length_cons, List.length_nil]; omega
  · have e : (chs ++ [c]).length = chs.length + 1 := by simp
    rw [e]
    have e2 : (sumTo (chs.length + 1) fun k => wrank (upd D chs.length (⟨.recv (valsOf chs.length s), T2, 0, 0⟩ : WD) k).k) = (sumTo chs.length fun k => wrank (D k).k) + 7 := by
      rw [sumTo]
      rw [upd_same]
      congr 1
      exact sumTo_congr fun i hi => by rw [upd_ne _ _ (by omega)]
    rw [e2]
    simp only [mrank, goes, List.length_cons]
    omega

theorem nodup_idx {l : List Nat} (h : l.Nodup) {i j c : Nat} (hi : l[i]? = some c) (hj : l[j]? = some c) : i = j := by
  obtain ⟨h1, e1⟩ := List.getElem?_eq_some_iff.1 hi
  obtain ⟨h2, e2⟩ := List.getElem?_eq_some_iff.1 hj
  have hp := List.pairwise_iff_getElem.1 h
  rcases Nat.lt_trichotomy i j with hl | hl | hl
  · exact absurd (e1.trans e2.symm) (hp i j h1 h2 hl)
  · exact hl
  · exact absurd (e2.trans e1.symm) (hp j i h2 h1 hl)

theorem partner_send (h : Inv P Wg z Q Next Shun L0 gs w t chs M TM D Ow own q0) {c : Nat} (i : Nat) (hmn : i = 0 ∨ ∀ a k v s' c' g0, gs[0]? = some a → M = .script (.send k v :: s') → chs[k]? = some c' → a = parked g0 #[scase c' v zS] .send → c' ≠ c) : ∀ (j : Nat) (x : Goroutine), (gs.setIfInBounds i ph)[j]? = some x → offersAt x c true = [] := by
  intro j x hx
  by_cases hji : j = i
  · subst hji
    have hlt : j < gs.size := by
      have := (Array.getElem?_eq_some_iff.1 hx).1
      simpa using this
    rw [Array.getElem?_setIfInBounds_self_of_lt hlt] at hx
    cases hx
    exact offersAt_ph _ _
  · rw [Array.getElem?_setIfInBounds_ne (Ne.symm hji)] at hx
    have hlt : j < gs.size := (Array.getElem?_eq_some_iff.1 hx).1
    rcases Nat.eq_zero_or_pos j with rfl | hpos
    · obtain ⟨a, ha, hm⟩ := h.main
      rw [ha] at hx; cases hx
      rcases hm.status with hst | ⟨k, v, s', c', g0, h1, h2, h3⟩ | ⟨_, h2, h3⟩
      · exact offersAt_of_not_blocked (by rw [hst]; simp) _ _
      · rcases hmn with hmn | hmn
        · exact absurd hmn.symm hji
        · have := hmn x k v s' c' g0 ha h1 h2 h3
          rw [h3, offersAt_parked_send, if_neg this]
      · unfold offersAt; rw [h2, h3]
    · rcases Nat.lt_or_ge j L0 with hl | hl
      · have hq := h.old j x hpos hl hx
        exact offersAt_of_not_blocked (by rcases hq.status with e | e <;> rw [e] <;> simp) _ _
      · obtain ⟨k, rfl⟩ : ∃ k, j = L0 + k := ⟨j - L0, by omega⟩
        obtain ⟨c', hc'⟩ := get_chs (chs := chs) (k := k) (by have := h.size; omega)
        obtain ⟨y, hy, hsit⟩ := h.wk k c' hc'
        rw [hx] at hy; cases hy
        rcases hsit.status with e | ⟨l, g1, _, e⟩ | ⟨_, e⟩
        · exact offersAt_of_not_blocked (by rw [e]; simp) _ _
        · rw [e, offersAt_parked_recv']
        · exact offersAt_of_not_blocked (by rw [e]; simp) _ _

/-- Nobody waits to receive there but worker k. -/
theorem partner_recv (h : Inv P Wg z Q Next Shun L0 gs w t chs M TM D Ow own q0) {c k : Nat} (hc : chs[k]? = some c) (i : Nat) : ∀ (j : Nat) (x : Goroutine), j ≠ L0 + k → (gs.setIfInBounds i ph)[j]? = some x → offersAt x c false = [] := by
  intro j x hjk hx
  by_cases hji : j = i
  · subst hji
    have hlt : j < gs.size := by
      have := (Array.getElem?_eq_some_iff.1 hx).1
      simpa using this
    rw [Array.getElem?_setIfInBounds_self_of_lt hlt] at hx
    cases hx
    exact offersAt_ph _ _
  · rw [Array.getElem?_setIfInBounds_ne (Ne.symm hji)] at hx
    have hlt : j < gs.size := (Array.getElem?_eq_some_iff.1 hx).1
    rcases Nat.eq_zero_or_pos j with rfl | hpos
    · obtain ⟨a, ha, hm⟩ := h.main
      rw [ha] at hx; cases hx
      rcases hm.status with hst | ⟨k, v, s', c', g0, h1, h2, h3⟩ | ⟨_, h2, h3⟩
      · exact offersAt_of_not_blocked (by rw [hst]; simp) _ _
      · rw [h3, offersAt_parked_send']
      · unfold offersAt; rw [h2, h3]
    · rcases Nat.lt_or_ge j L0 with hl | hl
      · have hq := h.old j x hpos hl hx
        exact offersAt_of_not_blocked (by rcases hq.status with e | e <;> rw [e] <;> simp) _ _
      · obtain ⟨k', rfl⟩ : ∃ k, j = L0 + k := ⟨j - L0, by omega⟩
        obtain ⟨c', hc'⟩ := get_chs (chs := chs) (k := k') (by have := h.size; omega)
        obtain ⟨y, hy, hsit⟩ := h.wk k' c' hc'
        rw [hx] at hy; cases hy
        rcases hsit.status with e | ⟨l, g1, _, e⟩ | ⟨_, e⟩
        · exact offersAt_of_not_blocked (by rw [e]; simp) _ _
        · rw [e, offersAt_parked_recv, if_neg]
          intro he
          subst he
          have : k' = k := nodup_idx h.nd hc' hc
          omega
        · exact offersAt_of_not_blocked (by rw [e]; simp) _ _

theorem setChan_same {c cap s r : Nat} {cl tm : Bool} {b : Array Value} (hlt : c < w.heap.size) : (w.setChan c cap b cl s r tm).heap[c]? = some (.chan cap b cl s r tm) := by
  unfold World.setChan
  dsimp only
  rw [Array.getElem?_setIfInBounds_self_of_lt hlt]
theorem setChan_ne {c cap s r x : Nat} {cl tm : Bool} {b : Array Value} (hx : x ≠ c) : (w.setChan c cap b cl s r tm).heap[x]? = w.heap[x]? := by
  unfold World.setChan
  dsimp only
  rw [Array.getElem?_setIfInBounds_ne (Ne.symm hx)]

theorem comm_ops {n : Nat} {u : Trace} (h : ∀ op ∈ u, op.g < n ∧ ((∃ c k, op.act = .send c k ∨ op.act = .sendDone c k ∨ op.act = .recvDone c k) ∨ (∃ c k j, op.act = .recv c k j) ∨ ∃ c, op.act = .recvClosed c)) : (∀ op ∈ u, op.g < n ∧ op.act.touch? = none) ∧ ∀ op ∈ u, ∀ m, op.act ≠ .mark m := by
  refine ⟨fun op hop => ⟨(h op hop).1, ?_⟩, fun op hop m => ?_⟩
  · rcases (h op hop).2 with ⟨c, k, e | e | e⟩ | ⟨c, k, j, e⟩ | ⟨c, e⟩ <;> rw [e] <;> rfl
  · rcases (h op hop).2 with ⟨c, k, e | e | e⟩ | ⟨c, k, j, e⟩ | ⟨c, e⟩ <;> rw [e] <;> simp

/-- THE TWO MEET: what holds behind it. -/
theorem Inv.meets (hQ : ∀ k, Steady (Q k) Wg) {k : Nat} {v : Value} {s' : List Cmd} (h : Inv P Wg z Q Next Shun L0 gs w t chs (.script (.send k v :: s')) .leaf D Ow own q0) {c s : Nat} (hc : chs[k]? = some c) (hs : w.heap[c]? = some (.chan 0 #[] false s s false)) {gs' : Array Goroutine} {u : Trace} {a0 g0 : Goroutine} {T1 T2 : Tree} (hT : (D k).T = .leaf) (hl : (D k).k = .recv (v :: valsOf k s'))
    (hgs : gs'.size = gs.size) (h0 : gs'[0]? = some (Conc.served a0 undef)) (hgk : gs'[L0 + k]? = some (Conc.served g0 (recvd true v true))) (hj : ∀ j, j ≠ 0 → j ≠ L0 + k → gs'[j]? = gs[j]?)
    (hu : ∀ op ∈ u, op.g < gs.size ∧ op.act.touch? = none) (hum : ∀ op ∈ u, ∀ m, op.act ≠ .mark m) (hd0 : Deaf t 0 = 0) (hdk : Deaf t (L0 + k) = 0)
    (hm : RunSit P true (EvMn Wg) (MStop P Wg z Q Next s' chs) T1 (Ow 0) 0 w (Conc.served a0 undef)) (hw : RunSit P false (EvWk Wg) (RStop P Wg z (Q k) c (valsOf k s')) T2 (Ow (L0 + k)) 0 w (Conc.served g0 (recvd true v true))) :
    ∃ Ow', Inv P Wg z Q Next Shun L0 gs' (w.setChan c 0 #[] false (s + 1) (s + 1) false) (t ++ u) chs (.script s') T1 (upd D k ⟨.recv (valsOf k s'), T2, 0, 0⟩) Ow' own q0 ∧
      Lt4 (meas L0 gs' chs.length (.script s') T1 (upd D k ⟨.recv (valsOf k s'), T2, 0, 0⟩) q0) (meas L0 gs chs.length (.script (.send k v :: s')) .leaf D q0) := by
  have hcc := mem_chs hc
  obtain ⟨hfb1, hfb2⟩ := h.ow.fb c (fb_ch hcc)
  have hre : ∀ i, Act L0 chs.length i → Rely (Ow i) w (w.setChan c 0 #[] false (s + 1) (s + 1) false) := fun i hi => rely_chan hs (hfb2 i hi).1 (hfb2 i hi).2
  have hI := h.comm hQ (M' := .script s') (TM' := T1) (D' := ⟨.recv (valsOf k s'), T2, 0, 0⟩) (O' := Ow (L0 + k)) hc hgs h0 hgk hj (by simp [World.setChan]) (fun i hi _ _ => hre i hi) hu hum rfl rfl (fun b hb => h.ow.x _ (actk (lt_chs hc)) b hb) rfl (by rw [hd0]; exact .inl (hm.rely (hre 0 (act0 _)))) (by rw [hdk]; exact .inl (hw.rely (hre _ (actk (lt_chs hc)))))
    (fun c' hc' => by
      by_cases e : c' = c
      · subst e; exact ⟨s + 1, setChan_same hfb1⟩
      · obtain ⟨s0, hs0⟩ := h.ch c' hc'
        exact ⟨s0, by rw [setChan_ne e]; exact hs0⟩) (fun _ => rfl) rfl (fun _ => rfl)
    (fun j v2 s2 y e e2 _ => by rw [hm.1] at e2; cases e2)
    (fun j c' hc' => by
      by_cases e : j = k
      · subst e; rw [upd_same]; exact ⟨fun l hl => by cases hl; rfl, fun _ => ⟨_, rfl⟩⟩
      · rw [upd_ne _ _ e]
        obtain ⟨r1, r2⟩ := h.rcv j c' hc'
        refine ⟨fun l hl => ?_, fun x => r2 x⟩
        have := r1 l hl
        simp only [valsM, valsOf] at this
        rw [if_neg (Ne.symm e)] at this
        exact this)
    trivial (by have := h.len; simp only [goesM, goes] at this ⊢; exact this) trivial
  refine ⟨_, hI, lt4_rank ?_⟩
  have := rank_upd (D := D) (D' := ⟨.recv (valsOf k s'), T2, 0, 0⟩) (lt_chs hc)
  have e1 : wrank (D k).k = 7 := by rw [hl]; rfl
  have e2 : wrank (⟨.recv (valsOf k s'), T2, 0, 0⟩ : WD).k = 7 := rfl
  rw [e1, e2] at this
  simp only [mrank, goes, List.length_cons]
  omega

/-- The starter at a send. -/
theorem main_send (hQ : ∀ k, Steady (Q k) Wg) {k : Nat} {v : Value} {s' : List Cmd} (h : Inv P Wg z Q Next Shun L0 gs w t chs (.script (.send k v :: s')) .leaf D Ow own q0) {a : Goroutine} (ha : gs[0]? = some a) (hr : a.status = .running) :
    ∃ m' ops, runT P (crowd gs w sl) 0 = (.next m', ops) ∧ Nx P Wg z Q Next Shun L0 (chs.length + goesM (.script (.send k v :: s'))) (meas L0 gs chs.length (.script (.send k v :: s')) .leaf D q0) m' (t ++ ops) := by
  obtain ⟨b, hb, hm⟩ := h.main
  rw [ha] at hb; cases hb
  obtain ⟨hr0, a0, hs, hfit⟩ := hm.run hr
  obtain ⟨d0, hr2, c, hc, hst, hrun⟩ := hfit w (Rely.refl _ _)
  dsimp only at d0 hst hrun
  have hst' : stepG P true a w = .comm a0 #[scase c v zS] true .send w #[] := by rw [hs.step]; exact hst w
  obtain ⟨s, hcs⟩ := h.ch c (mem_chs hc)
  have hcs' : w.heap[c]? = some (.chan 0 #[] false s s false) := hcs
  obtain ⟨g, hg, hsit⟩ := h.wk k c hc
  obtain ⟨l, hl⟩ := (h.rcv k c hc).2 rfl
  have hlv := (h.rcv k c hc).1 l hl
  simp only [valsM, valsOf, if_true] at hlv
  subst hlv
  have l0 := h.l0
  have hlt0 : 0 < gs.size := (Array.getElem?_eq_some_iff.1 ha).1
  have hltk : L0 + k < gs.size := (Array.getElem?_eq_some_iff.1 hg).1
  have hevs : MemOp.ofEvents 0 a.frame.fn a.frame.place #[] = #[] := rfl
  have hsit0 := hsit
  unfold WSit at hsit
  rw [hl] at hsit
  rcases hsit with hsit | ⟨hleaf, g0, hfit2, hpark⟩
  · -- nobody waits there
    have hp : partners (gs.setIfInBounds 0 ph) c false = [] := partners_nil fun j x hx => by
      by_cases hj : j = L0 + k
      · subst hj
        rw [Array.getElem?_setIfInBounds_ne (by omega), hg] at hx
        cases hx
        exact offersAt_of_not_blocked (by rw [hsit.1]; simp) _ _
      · exact partner_recv h hc 0 j x hj hx
    have hw := crowd_waits (P := P) (sl := sl) (i := 0) ha hst' (fun cc hcc => by
      simp at hcc
      subst hcc
      exact ways_send_none hcs' (Nat.le_refl _) hp)
    have hI := h.comm hQ (M' := .script (.send k v :: s')) (TM' := .leaf) (D' := D k) (O' := Ow (L0 + k)) (u := #[]) (gs' := gs.setIfInBounds 0 (parked a0 #[scase c v zS] .send)) (w' := w) (a' := parked a0 #[scase c v zS] .send) (g' := g) hc (by simp)
      (by rw [Array.getElem?_setIfInBounds_self_of_lt hlt0]) (by rw [Array.getElem?_setIfInBounds_ne (by omega)]; exact hg) (fun j hj _ => by rw [Array.getElem?_setIfInBounds_ne (Ne.symm hj)]) rfl (fun _ _ _ _ => Rely.refl _ _) (by simp) (by simp) rfl rfl (fun b hb => h.ow.x _ (actk (lt_chs hc)) b hb) rfl
      (.inr ⟨rfl, a0, k, v, s', c, rfl, hc, hfit, rfl⟩) hsit0 h.ch (fun _ => rfl) (by rw [hl]; rfl) (fun _ => rfl)
      (fun j v2 s2 y e _ e3 => by
        cases e
        rw [Array.getElem?_setIfInBounds_ne (by omega), hg] at e3
        cases e3
        rw [hsit.1]; simp)
      (fun j c' hc' => by
        have e : upd D k (D k) = D := by funext j; by_cases e : j = k <;> simp [upd, e]
        rw [e]; exact h.rcv j c' hc') trivial h.len trivial
    have e : upd D k (D k) = D := by funext j; by_cases e : j = k <;> simp [upd, e]
    rw [e] at hI
    exact ⟨_, _, hw, .inl ⟨_, w, sl, chs, _, .leaf, D, _, own, q0, rfl, hI, rfl, .single (lt4_bit rfl rfl rfl (bits_park ha hr rfl))⟩⟩
  · -- worker k waits there
    subst hpark
    obtain ⟨d1, _, _, hrunW⟩ := hfit2 w (Rely.refl _ _)
    dsimp only at d1 hrunW
    have hp : partners (gs.setIfInBounds 0 ph) c false = [(L0 + k, 0)] := by
      rw [partners_one (j := L0 + k) (g := parked g0 #[rcase c z] (.recv true)) (by rw [Array.getElem?_setIfInBounds_ne (by omega)]; exact hg) (fun j x hj hx => partner_recv h hc 0 j x hj hx), offersAt_parked_recv, if_pos rfl]
      rfl
    have hw := crowd_send_meets (P := P) (sl := sl) (i := 0) ha hst' hcs' (by omega) hg hp
    obtain ⟨T1, hT1⟩ := hrun.sit fun y => MStop.running
    obtain ⟨T2, hT2⟩ := hrunW.sit fun y hy => hy.running.2.1
    obtain ⟨c1, c2⟩ := comm_ops (n := gs.size) (u := MemOp.ofEvents 0 a.frame.fn a.frame.place #[] ++ #[{ g := 0, fn := a0.frame.fn, pos := a0.frame.place, act := .send c s }, { g := L0 + k, fn := g0.frame.fn, pos := g0.frame.place, act := .recv c s 0 }, { g := 0, fn := a0.frame.fn, pos := a0.frame.place, act := .sendDone c s }, { g := L0 + k, fn := g0.frame.fn, pos := g0.frame.place, act := .recvDone c s }]) (fun op hop => by
      rw [hevs] at hop
      simp only [Array.empty_append, List.mem_toArray, List.mem_cons, List.not_mem_nil, or_false] at hop
      rcases hop with rfl | rfl | rfl | rfl
      · exact ⟨hlt0, .inl ⟨_, _, .inl rfl⟩⟩
      · exact ⟨hltk, .inr (.inl ⟨_, _, _, rfl⟩)⟩
      · exact ⟨hlt0, .inl ⟨_, _, .inr (.inl rfl)⟩⟩
      · exact ⟨hltk, .inl ⟨_, _, .inr (.inr rfl)⟩⟩)
    obtain ⟨Ow', hI, hlt⟩ := h.meets hQ (gs' := (gs.setIfInBounds (L0 + k) (Conc.served g0 (recvd true v true))).setIfInBounds 0 (Conc.served a0 undef)) hc hcs' hleaf hl (by simp) (by rw [Array.getElem?_setIfInBounds_self_of_lt (by simpa using hlt0)]) (by rw [Array.getElem?_setIfInBounds_ne (by omega), Array.getElem?_setIfInBounds_self_of_lt hltk])
      (fun j h1 h2 => by rw [Array.getElem?_setIfInBounds_ne (Ne.symm h1), Array.getElem?_setIfInBounds_ne (Ne.symm h2)]) c1 c2 d0 d1 hT1 hT2
    exact ⟨_, _, hw, .inl ⟨_, _, sl, chs, _, T1, _, _, own, q0, rfl, hI, rfl, .single hlt⟩⟩

/-- THE STARTER's STEP. -/
theorem main_step (hQ : ∀ k, Steady (Q k) Wg) (h : Inv P Wg z Q Next Shun L0 gs w t chs M TM D Ow own q0) {a : Goroutine} (ha : gs[0]? = some a) (hr : a.status = .running) :
    ∃ m' ops, runT P (crowd gs w sl) 0 = (.next m', ops) ∧ Nx P Wg z Q Next Shun L0 (chs.length + goesM M) (meas L0 gs chs.length M TM D q0) m' (t ++ ops) := by
  cases TM using Tree.cs with
  | node f => exact main_idle hQ h ha hr
  | leaf =>
    rcases Classical.em (∃ s, M = .script s) with ⟨s, rfl⟩ | hn
    · cases s with
      | nil =>
        obtain ⟨M', TM', Ow', hns, hgo, hI, hlt⟩ := h.toShut ha hr
        have key : ∃ m' ops, runT P (crowd gs w sl) 0 = (.next m', ops) ∧ Nx P Wg z Q Next Shun L0 (chs.length + goesM M') (meas L0 gs chs.length M' TM' D q0) m' (t ++ ops) := by
          cases TM' using Tree.cs with
          | node f => exact main_idle hQ hI ha hr
          | leaf => exact main_stop hQ hI hns ha hr
        obtain ⟨m', ops, h1, h2⟩ := key
        refine ⟨m', ops, h1, ?_⟩
        rw [hgo] at h2
        exact h2.mono hlt
      | cons x s =>
        cases x using Cmd.cs with
        | go => exact main_spawn h ha hr
        | send k v => exact main_send hQ h ha hr
    · exact main_stop hQ h (fun s e => hn ⟨s, e⟩) ha hr
end

end Go.Proofs.Ytgpplekabohneaa.Co

namespace Go.Proofs.Ytgpplekabohneaa.Co
open Go Go.Conc Go.ConcN
open Go.ConcR (KK WgAt stA smA rd wr)

theorem Mode.congr {Wg n : Nat} {D D' : Nat → WD} {w : World} {r : Prop} {M : MK} (h : Mode Wg n D w r M) (e : ∀ j, (D' j).k = (D j).k) : Mode Wg n D' w r M := by
  have ec : cnt n D' = cnt n D := sumTo_congr fun i _ => by unfold cw; rw [e]
  have ea : (∀ k, k < n → counted (D k).k = true ∨ (D k).k = .quit) → ∀ k, k < n → counted (D' k).k = true ∨ (D' k).k = .quit := fun x k hk => by rw [e]; exact x k hk
  cases M using MK.cs with
  | script s => trivial
  | shut m op => exact ⟨by rw [ec]; exact h.1, ea h.2⟩
  | w1 N => exact ⟨by rw [ec]; exact h.1, by rw [ec]; exact h.2.1, ea h.2.2⟩
  | w2 m N => exact ⟨by rw [ec]; exact h.1, by rw [ec]; exact h.2.1, ea h.2.2⟩
  | w3 =>
    rcases h with ⟨a, b, c⟩ | ⟨j, a, b, c⟩ | ⟨a, b, c⟩
    · exact .inl ⟨by rw [ec]; exact a, by rw [ec]; exact b, ea c⟩
    · exact .inr (.inl ⟨j, a, fun k hk hne => by rw [e]; exact b k hk hne, by rw [e]; exact c⟩)
    · exact .inr (.inr ⟨fun k hk => by rw [e]; exact a k hk, b, c⟩)
  | w4 => exact ⟨fun k hk => by rw [e]; exact h.1 k hk, h.2⟩
  | acq => exact fun k hk => by rw [e]; exact h k hk

/-- A counted worker, in whatever phase behind the script. -/
theorem mode_counted {Wg n k : Nat} {D : Nat → WD} {w : World} {r : Prop} {M : MK} (h : Mode Wg n D w r M) (hn : ∀ s, M ≠ .script s) (hk : k < n) (hc : counted (D k).k = true) :
    ∃ wt : Nat, wt ≤ 1 ∧ WgAt 125 Wg w ((cnt n D : Int) * KK + wt) 0 ∧ ∀ (D' : WD) (w' : World) (r' : Prop), WgAt 125 Wg w' (((cnt n D - 1 : Nat) : Int) * KK + wt) 0 →
      (¬ (cnt n D - 1 = 0 ∧ wt = 1) → D'.k = .quit → Mode Wg n (upd D k D') w' r' M) ∧ ((cnt n D - 1 = 0 ∧ wt = 1) → D'.k = .d2 → Mode Wg n (upd D k D') w' r' M) := by
  have hp := cnt_pos hk hc
  have c1 : cw (D k) = 1 := by unfold cw; rw [hc]; rfl
  have dec : ∀ D' : WD, D'.k = .quit → cnt n (upd D k D') = cnt n D - 1 := fun D' e => by
    have := cnt_upd (D := D) (D' := D') hk
    have c0 : cw D' = 0 := by unfold cw; rw [e]; rfl
    omega
  have all' : ∀ D' : WD, D'.k = .quit → (∀ j, j < n → counted (D j).k = true ∨ (D j).k = .quit) → ∀ j, j < n → counted (upd D k D' j).k = true ∨ (upd D k D' j).k = .quit := fun D' e x j hj => by
    by_cases hjk : j = k
    · subst hjk; rw [upd_same]; exact .inr e
    · rw [upd_ne _ _ hjk]; exact x j hj
  have nq : ∀ (x : WK), counted x = true → x ≠ .quit := fun x hx e => by rw [e] at hx; cases hx
  cases M using MK.cs with
  | script s => exact absurd rfl (hn s)
  | shut m op =>
    refine ⟨0, by omega, by simpa using h.1, fun D' w' r' hw' => ⟨fun _ e => ⟨by rw [dec D' e]; simpa using hw', all' D' e h.2⟩, fun x => by omega⟩⟩
  | w1 N =>
    refine ⟨0, by omega, by simpa using h.2.1, fun D' w' r' hw' => ⟨fun _ e => ⟨by rw [dec D' e]; have := h.1; omega, by rw [dec D' e]; simpa using hw', all' D' e h.2.2⟩, fun x => by omega⟩⟩
  | w2 m N =>
    refine ⟨0, by omega, by simpa using h.2.1, fun D' w' r' hw' => ⟨fun _ e => ⟨⟨h.1.1, h.1.2.1, by rw [dec D' e]; have := h.1.2.2; omega⟩, by rw [dec D' e]; simpa using hw', all' D' e h.2.2⟩, fun x => by omega⟩⟩
  | w3 =>
    rcases h with ⟨a, b, c⟩ | ⟨j, a, b, c⟩ | ⟨a, b, c⟩
    · refine ⟨1, by omega, b, fun D' w' r' hw' => ⟨fun x e => .inl ⟨by rw [dec D' e]; omega, by rw [dec D' e]; exact hw', all' D' e c⟩, fun x e => .inr (.inl ⟨k, hk, fun j hj hne => ?_, .inl ⟨by rw [upd_same]; exact .inl e, ?_⟩⟩)⟩⟩
      · rw [upd_ne _ _ hne]
        rcases c j hj with y | y
        · rw [cnt_one (by omega) hk hc hj hne] at y; cases y
        · exact y
      · have := hw'
        rw [x.1] at this
        simpa using this
    · exfalso
      by_cases hjk : k = j
      · subst hjk
        rcases c with ⟨x | x, _⟩ | ⟨x, _⟩ <;> rw [x] at hc <;> cases hc
      · exact nq _ hc (b k hk hjk)
    · exact absurd (a k hk) (nq _ hc)
  | w4 => exact absurd (h.1 k hk) (nq _ hc)
  | acq => exact absurd (h k hk) (nq _ hc)

/-- The last one on its way. -/
theorem mode_last {Wg n k : Nat} {D : Nat → WD} {w : World} {r : Prop} {M : MK} (h : Mode Wg n D w r M) (hn : ∀ s, M ≠ .script s) (hk : k < n) (hc : counted (D k).k = false) (hq : (D k).k ≠ .quit) :
    M = .w3 ∧ (∀ j, j < n → j ≠ k → (D j).k = .quit) ∧ (((D k).k = .d2 ∨ (D k).k = .d3) ∧ WgAt 125 Wg w 1 0 ∨ (D k).k = .d4 ∧ WgAt 125 Wg w 0 0) := by
  have no : (∀ j, j < n → counted (D j).k = true ∨ (D j).k = .quit) → False := fun x => by
    rcases x k hk with y | y
    · rw [hc] at y; cases y
    · exact hq y
  cases M using MK.cs with
  | script s => exact absurd rfl (hn s)
  | shut m op => exact (no h.2).elim
  | w1 N => exact (no h.2.2).elim
  | w2 m N => exact (no h.2.2).elim
  | w3 =>
    rcases h with ⟨a, b, c⟩ | ⟨j, a, b, c⟩ | ⟨a, b, c⟩
    · exact (no c).elim
    · by_cases hjk : k = j
      · subst hjk; exact ⟨rfl, b, c⟩
      · exact absurd (b k hk hjk) hq
    · exact absurd (a k hk) hq
  | w4 => exact absurd (h.1 k hk) hq
  | acq => exact absurd (h k hk) hq

section
variable {P : Program} {Wg : Nat} {z : Value} {Q : Nat → Own → World → Prop} {Next : Pos → Prop} {Shun : Loc → Prop} {L0 : Nat}
  {gs : Array Goroutine} {w : World} {t : Trace} {chs : List Nat} {M : MK} {TM : Tree} {D : Nat → WD} {Ow : Nat → Own} {own : Loc → Nat} {q0 : Nat → Nat} {sl : Option (Nat × Nat)}

theorem evq_touch {O : Own} {e : Event} (h : EvQt O e) : (MemAct.ofEvent e).touch? = none ∧ e.loc ≠ .mark (.release (stA Wg)) := by
  unfold EvQt at h
  subst h
  exact ⟨rfl, by simp [Go.ConcR.mk]⟩

theorem Inv.notscript (h : Inv P Wg z Q Next Shun L0 gs w t chs M TM D Ow own q0) {k c : Nat} (hc : chs[k]? = some c) (hk : ∀ l, (D k).k ≠ .recv l) : ∀ s, M ≠ .script s := by
  rintro s rfl
  obtain ⟨l, hl⟩ := (h.rcv k c hc).2 rfl
  exact hk l hl

theorem run0_woken {a' : Goroutine} {x x' : Goroutine} {w' : World} (h : ∃ a, gs[0]? = some a ∧ a.status = .running) (_ : a' = a') : ∃ a, (gs[0]?).map (woken P x x' w') = some a ∧ a.status = .running := by
  obtain ⟨a, h1, h2⟩ := h
  exact ⟨a, by rw [h1]; simp [woken_run h2], h2⟩

/-- A worker's step without a communication. -/
theorem work_go (hQ : ∀ k, Steady (Q k) Wg) (h : Inv P Wg z Q Next Shun L0 gs w t chs M TM D Ow own q0) {k c : Nat} {g g' : Goroutine} {w' : World} {es : Array Event} {O' : Own} {D' : WD} (hc : chs[k]? = some c) (hg : gs[L0 + k]? = some g) (hst : stepG P false g w = .go g' w' es)
    (hgu : Guar (Ow (L0 + k)) O' w w' ∨ (O' = Ow (L0 + k) ∧ (∀ s, M ≠ .script s) ∧ ∃ i v st sm, w' = w.setCell ⟨Wg, i, none⟩ v ∧ WgAt 125 Wg w' st sm))
    (hes : ∀ e ∈ es, (∀ x, (MemAct.ofEvent e).touch? = some x → (ShN Wg x.loc ∧ x.kind ≠ .plain ∧ x.kind ≠ .said) ∨ OwnL O' x.loc) ∧ e.loc ≠ .mark (.release (stA Wg)))
    (hw : WSit P Wg z (Q k) c D' O' (deafBehind (Deaf t (L0 + k)) es) w' g') (hrl : released D'.k = true → Rl (ShN Wg) Wg (t ++ MemOp.ofEvents (L0 + k) g.frame.fn g.frame.place es) (L0 + k) D'.r) (hnb : g'.status ≠ .blocked)
    (hrcv : (∀ l, D'.k = .recv l → l = valsM M k) ∧ (shutB M c = false → ∃ l, D'.k = .recv l)) (hmode : Mode Wg chs.length (upd D k D') w' (∃ a, (gs[0]?).map (woken P g g' w') = some a ∧ a.status = .running) M)
    (hlt : Lt4 (meas L0 ((gs.map (woken P g g' w')).setIfInBounds (L0 + k) g') chs.length M TM (upd D k D') q0) (meas L0 gs chs.length M TM D q0)) :
    ∃ m' ops, runT P (crowd gs w sl) (L0 + k) = (.next m', ops) ∧ Nx P Wg z Q Next Shun L0 (chs.length + goesM M) (meas L0 gs chs.length M TM D q0) m' (t ++ ops) := by
  have l0 := h.l0
  have hk := lt_chs hc
  have hi0 : (L0 + k == 0) = false := by simp; omega
  have hrunT := runT_crowd_go (P := P) (sl := sl) (i := L0 + k) hg (by rw [hi0]; exact hst)
  have facts : w.heap.size ≤ w'.heap.size ∧ Grows (Ow (L0 + k)) O' w.heap.size w'.heap.size ∧ (∀ b, O'.X b → FbM Wg chs M b) ∧ (∀ i, Act L0 chs.length i → i ≠ L0 + k → Rely (Ow i) w w') ∧ ∀ c ∈ chs, ∃ s, w'.heap[c]? = some (.chan 0 #[] (shutB M c) s s false) := by
    rcases hgu with hgu | ⟨rfl, hn, i, v, st, sm, rfl, hwg⟩
    · exact ⟨hgu.size, hgu.grows, fun b hb => h.ow.x _ (actk hk) b (hgu.ownX b hb), fun i hi hne => (h.ow.far (actk hk) hi hne rfl).rely hgu, h.chsame (actk hk) hgu⟩
    · have hfb := h.ow.fb Wg (fb_wg hn)
      refine ⟨by simp [World.setCell], Grows.refl _ _ _, fun b hb => h.ow.x _ (actk hk) b hb, fun j hj _ => rely_wg (hfb.2 j hj).1 (hfb.2 j hj).2 hwg, fun c' hc' => ?_⟩
      obtain ⟨s, hs⟩ := h.ch c' hc'
      refine ⟨s, ?_⟩
      have hne : Wg ≠ c' := fun e => h.nwc (e ▸ hc')
      have : (w.setCell ⟨Wg, i, none⟩ v).heap[c']? = w.heap[c']? := by
        unfold World.setCell
        simp only
        rw [Array.getElem?_modify, if_neg hne]
      rw [this]; exact hs
  obtain ⟨f1, f2, f3, f4, f5⟩ := facts
  have hI := h.stepW hQ hc hg f1 f2 f3 f4 hes hw f5 hrl hnb hrcv hmode
  exact ⟨_, _, hrunT, .inl ⟨_, w', sl, chs, M, TM, _, _, _, q0, rfl, hI, rfl, .single hlt⟩⟩

/-- A worker's idle step. -/
theorem work_idle (hQ : ∀ k, Steady (Q k) Wg) (h : Inv P Wg z Q Next Shun L0 gs w t chs M TM D Ow own q0) {k c : Nat} {g : Goroutine} {f : World → Tree} {Ev : Own → Event → Prop} {Stop : Pos → Prop} (hc : chs[k]? = some c) (hg : gs[L0 + k]? = some g) (hT : (D k).T = .node f)
    (hsit : RunSit P false Ev Stop (.node f) (Ow (L0 + k)) (Deaf t (L0 + k)) w g) (hS : ∀ y, Stop y → y.g.status = .running) (hEv : (Ev = EvWk Wg ∧ released (D k).k = false) ∨ Ev = EvQt)
    (hk : ∀ T O d w g, RunSit P false Ev Stop T O d w g → WSit P Wg z (Q k) c ⟨(D k).k, T, (D k).q, (D k).r⟩ O d w g) :
    ∃ m' ops, runT P (crowd gs w sl) (L0 + k) = (.next m', ops) ∧ Nx P Wg z Q Next Shun L0 (chs.length + goesM M) (meas L0 gs chs.length M TM D q0) m' (t ++ ops) := by
  obtain ⟨g', w', O', es, hst, hgu, hev, hrs⟩ := RunSit.node hS hsit
  have hkind : ∀ j, (upd D k ⟨(D k).k, f w, (D k).q, (D k).r⟩ j).k = (D j).k := fun j => by
    by_cases e : j = k
    · subst e; rw [upd_same]
    · rw [upd_ne _ _ e]
  refine work_go hQ h (D' := ⟨(D k).k, f w, (D k).q, (D k).r⟩) hc hg hst (.inl hgu) (fun e he => ?_) (hk _ _ _ _ _ hrs) (fun hr => ?_) (by rw [hrs.1]; simp) (h.rcv k c hc) ?_ (lt4_tree ?_ (step_work (lt_chs hc) hT rfl))
  · rcases hEv with ⟨rfl, _⟩ | rfl
    · exact hev e he
    · have := evq_touch (Wg := Wg) (hev e he)
      exact ⟨fun x hx => (by rw [this.1] at hx; cases hx), this.2⟩
  · rcases hEv with ⟨_, hf⟩ | rfl
    · rw [hf] at hr; cases hr
    · refine (h.rl k (lt_chs hc) hr).ownS _ _ es fun j e he => .inl (evq_touch (Wg := Wg) (hev e (Array.mem_of_getElem? he))).1
  · refine Mode.congr (D := D) (h.mode.of_heap (h.wgsame (actk (lt_chs hc)) hgu) fun x => run0_woken (a' := g) x rfl) hkind
  · congr 1
    exact sumTo_congr fun j _ => by rw [hkind]

theorem not_blocked_of_run {main : Bool} {Ev : Own → Event → Prop} {Stop : Pos → Prop} {T : Tree} {O : Own} {d : Nat} {w : World} {g : Goroutine} (h : RunSit P main Ev Stop T O d w g) : g.status ≠ .blocked := by rw [h.1]; simp
theorem not_blocked_of_quit {n d : Nat} {g : Goroutine} (h : QuitsD P n d g) : g.status ≠ .blocked := by rcases h.status with e | e <;> rw [e] <;> simp

/-- Where the rank falls. -/
theorem work_rank (hQ : ∀ k, Steady (Q k) Wg) (h : Inv P Wg z Q Next Shun L0 gs w t chs M TM D Ow own q0) {k c : Nat} {g g' : Goroutine} {w' : World} {es : Array Event} {D' : WD} (hc : chs[k]? = some c) (hg : gs[L0 + k]? = some g) (hst : stepG P false g w = .go g' w' es)
    (hnr : ∀ l, (D k).k ≠ .recv l) (hnr' : ∀ l, D'.k ≠ .recv l) (hw' : w' = w ∨ ∃ i v st sm, w' = w.setCell ⟨Wg, i, none⟩ v ∧ WgAt 125 Wg w' st sm)
    (hes : ∀ e ∈ es, (∀ x, (MemAct.ofEvent e).touch? = some x → (ShN Wg x.loc ∧ x.kind ≠ .plain ∧ x.kind ≠ .said)) ∧ e.loc ≠ .mark (.release (stA Wg)))
    (hw : WSit P Wg z (Q k) c D' (Ow (L0 + k)) (deafBehind (Deaf t (L0 + k)) es) w' g') (hrl : released D'.k = true → Rl (ShN Wg) Wg (t ++ MemOp.ofEvents (L0 + k) g.frame.fn g.frame.place es) (L0 + k) D'.r) (hnb : g'.status ≠ .blocked)
    (hmode : Mode Wg chs.length (upd D k D') w' (∃ a, (gs[0]?).map (woken P g g' w') = some a ∧ a.status = .running) M) (hlt : wrank D'.k < wrank (D k).k) :
    ∃ m' ops, runT P (crowd gs w sl) (L0 + k) = (.next m', ops) ∧ Nx P Wg z Q Next Shun L0 (chs.length + goesM M) (meas L0 gs chs.length M TM D q0) m' (t ++ ops) := by
  have hn := h.notscript hc hnr
  have hsh : shutB M c = true := by
    cases e : shutB M c with
    | true => rfl
    | false =>
      obtain ⟨l, hl⟩ := (h.rcv k c hc).2 e
      exact absurd hl (hnr l)
  refine work_go hQ h hc hg hst ?_ (fun e he => ⟨fun x hx => .inl ((hes e he).1 x hx), (hes e he).2⟩) hw hrl hnb ⟨fun l hl => absurd hl (hnr' l), fun x => by rw [hsh] at x; cases x⟩ hmode (lt4_rank ?_)
  · rcases hw' with rfl | ⟨i, v, st, sm, rfl, hx⟩
    · exact .inl (Guar.refl _ _)
    · exact .inr ⟨rfl, hn, i, v, st, sm, rfl, hx⟩
  · have := rank_upd (D := D) (D' := D') (lt_chs hc)
    omega

theorem deaf_pos {d : Nat} {es : Array Event} (h : d = 1) (j : Nat) (he : ∀ e ∈ es, e.loc ≠ .mark .disable ∧ e.loc ≠ .mark .enable) : 0 < deafBehind d (es.extract 0 j) := by
  rw [deafBehind_still (fun e hx => he e (by
    obtain ⟨i, hi, rfl⟩ := Array.mem_iff_getElem.1 hx
    rw [Array.getElem_extract]
    exact Array.getElem_mem _)) d, h]
  exact Nat.one_pos

theorem rl_atom {k r : Nat} {fn : FuncId} {pos : String} {es : Array Event} (h : Rl (ShN Wg) Wg t k r) (hd : Deaf t k = 1) (he : ∀ e ∈ es, ∃ a, a.block = Wg ∧ (e = rd a ∨ e = wr a)) : Rl (ShN Wg) Wg (t ++ MemOp.ofEvents k fn pos es) k r := by
  refine h.ownS fn pos es fun j e hj => .inr ⟨?_, deaf_pos hd j fun e hx => ?_⟩
  · obtain ⟨a, ha, hx | hx⟩ := he e (Array.mem_of_getElem? hj)
    · exact ⟨a, false, hx, a, rfl, ha⟩
    · exact ⟨a, true, hx, a, rfl, ha⟩
  · obtain ⟨a, _, hx | hx⟩ := he e hx <;> subst hx <;> simp [rd, wr]

/-- It leaves. -/
theorem work_quit (hQ : ∀ k, Steady (Q k) Wg) (h : Inv P Wg z Q Next Shun L0 gs w t chs M TM D Ow own q0) {k c : Nat} {g : Goroutine} (hc : chs[k]? = some c) (hg : gs[L0 + k]? = some g) (hr : g.status = .running) (hkd : (D k).k = .quit) :
    ∃ m' ops, runT P (crowd gs w sl) (L0 + k) = (.next m', ops) ∧ Nx P Wg z Q Next Shun L0 (chs.length + goesM M) (meas L0 gs chs.length M TM D q0) m' (t ++ ops) := by
  obtain ⟨y, hy, hsit⟩ := h.wk k c hc
  rw [hg] at hy; cases hy
  have hk := lt_chs hc
  have hnr : ∀ l, (D k).k ≠ .recv l := fun l e => by rw [hkd] at e; cases e
  unfold WSit at hsit
  rw [hkd] at hsit
  obtain ⟨hq, hpay⟩ := hsit
  cases hqi : (D k).q with
  | zero => rw [hqi] at hq; rw [hq.1] at hr; cases hr
  | succ n =>
    rw [hqi] at hq
    rcases hq with ⟨hf, _⟩ | ⟨_, g', es, hm, hstp, hq'⟩
    · rw [hf] at hr; cases hr
    have hkind : ∀ j, (upd D k (⟨.quit, (D k).T, n, (D k).r⟩ : WD) j).k = (D j).k := fun j => by
      by_cases e : j = k
      · subst e; rw [upd_same, hkd]
      · rw [upd_ne _ _ e]
    have hsh : shutB M c = true := by
      cases e : shutB M c with
      | true => rfl
      | false =>
        obtain ⟨l, hl⟩ := (h.rcv k c hc).2 e
        exact absurd hl (hnr l)
    have tm : ∀ e ∈ es, (MemAct.ofEvent e).touch? = none := fun e he => touch_mute (hm e he)
    have mr : ∀ e ∈ es, e.loc ≠ .mark (.release (stA Wg)) := fun e he x => by
      have := hm e he
      obtain ⟨loc, wr, sy⟩ := e
      dsimp only at x
      subst x
      cases this
    refine work_go hQ h (D' := ⟨.quit, (D k).T, n, (D k).r⟩) (O' := Ow (L0 + k)) hc hg (hstp w) (.inl (Guar.refl _ _)) (fun e he => ⟨fun x hx => (by rw [tm e he] at hx; cases hx), mr e he⟩) ⟨hq', hpay⟩ (fun _ => (h.rl k hk (by rw [hkd]; rfl)).ownS _ _ es fun j e he => .inl (tm e (Array.mem_of_getElem? he))) (not_blocked_of_quit hq') ⟨fun l hl => (by cases hl), fun x => (by rw [hsh] at x; cases x)⟩ (Mode.congr (D := D) (h.mode.of_heap (.inr rfl) fun x => run0_woken (a' := g) x rfl) hkind) (lt4_q ?_ (trees_same rfl) ?_)
    · congr 1
      exact sumTo_congr fun j _ => by rw [hkind]
    · have := q_upd (D := D) (D' := ⟨.quit, (D k).T, n, (D k).r⟩) hk
      dsimp only at this
      omega

/-- A worker at a stop, its channel closed. -/
theorem work_stop (hQ : ∀ k, Steady (Q k) Wg) (h : Inv P Wg z Q Next Shun L0 gs w t chs M TM D Ow own q0) {k c : Nat} {g : Goroutine} (hc : chs[k]? = some c) (hg : gs[L0 + k]? = some g) (hr : g.status = .running) (hT : (D k).T = .leaf) (hnr : ∀ l, (D k).k ≠ .recv l) :
    ∃ m' ops, runT P (crowd gs w sl) (L0 + k) = (.next m', ops) ∧ Nx P Wg z Q Next Shun L0 (chs.length + goesM M) (meas L0 gs chs.length M TM D q0) m' (t ++ ops) := by
  obtain ⟨y, hy, hsit⟩ := h.wk k c hc
  rw [hg] at hy; cases hy
  have hn := h.notscript hc hnr
  have hk := lt_chs hc
  unfold WSit at hsit
  rw [hT] at hsit
  cases hkd : (D k).k using WK.cs with
  | recv l => exact absurd hkd (hnr l)
  | fin =>
    rw [hkd] at hsit
    obtain ⟨g0, hs, hd, _, g', e1, e2⟩ := RunSit.leaf hsit
    dsimp only at hd e1 e2
    obtain ⟨T, hT'⟩ := e2.sit fun y hy => hy.2.1
    refine work_rank hQ h (D' := ⟨.rel, T, 0, t.size⟩) hc hg (by rw [hs.step]; exact e1) hnr (by simp) (.inl rfl) (fun e he => ?_) (by rw [hd]; exact hT') (fun _ => Rl.new hd _ _) (not_blocked_of_run hT') ?_ (by rw [hkd]; simp [wrank])
    · simp at he; subst he
      exact ⟨fun x hx => (by cases hx), by simp [Go.ConcR.mk]⟩
    · obtain ⟨wt, h1, h2, _⟩ := mode_counted h.mode hn hk (by rw [hkd]; rfl)
      have hcn : cnt chs.length (upd D k ⟨.rel, T, 0, t.size⟩) = cnt chs.length D := by
        have := cnt_upd (D := D) (D' := ⟨.rel, T, 0, t.size⟩) hk
        have c1 : cw (D k) = 1 := by unfold cw; rw [hkd]; rfl
        have c2 : cw ⟨.rel, T, 0, t.size⟩ = 1 := rfl
        omega
      have hall : (∀ j, j < chs.length → counted (D j).k = true ∨ (D j).k = .quit) → ∀ j, j < chs.length → counted (upd D k ⟨.rel, T, 0, t.size⟩ j).k = true ∨ (upd D k ⟨.rel, T, 0, t.size⟩ j).k = .quit := fun x j hj => by
        by_cases e : j = k
        · subst e; rw [upd_same]; exact .inl rfl
        · rw [upd_ne _ _ e]; exact x j hj
      have hmd := h.mode
      cases M using MK.cs with
      | script s => exact absurd rfl (hn s)
      | shut m op => exact ⟨by rw [hcn]; exact hmd.1, hall hmd.2⟩
      | w1 N => exact ⟨by rw [hcn]; exact hmd.1, by rw [hcn]; exact hmd.2.1, hall hmd.2.2⟩
      | w2 m N => exact ⟨by rw [hcn]; exact hmd.1, by rw [hcn]; exact hmd.2.1, hall hmd.2.2⟩
      | w3 =>
        rcases hmd with ⟨a, b, c'⟩ | ⟨j, a, b, c'⟩ | ⟨a, b, c'⟩
        · exact .inl ⟨by rw [hcn]; exact a, by rw [hcn]; exact b, hall c'⟩
        · exfalso
          by_cases hjk : k = j
          · subst hjk
            rcases c' with ⟨x | x, _⟩ | ⟨x, _⟩ <;> rw [x] at hkd <;> cases hkd
          · have := b k hk hjk; rw [this] at hkd; cases hkd
        · have := a k hk; rw [this] at hkd; cases hkd
      | w4 => have := hmd.1 k hk; rw [this] at hkd; cases hkd
      | acq => have := hmd k hk; rw [this] at hkd; cases hkd
  | rel =>
    rw [hkd] at hsit
    obtain ⟨g0, hs, hd, _, hq, hstep⟩ := RunSit.leaf hsit
    dsimp only at hd hq hstep
    obtain ⟨wt, h1, h2, h3⟩ := mode_counted h.mode hn hk (by rw [hkd]; rfl)
    have hp := cnt_pos hk (D := D) (by rw [hkd]; rfl)
    have hcl := cnt_le chs.length D
    have hlen := h.len
    obtain ⟨g', e1, e2, e3⟩ := hstep (cnt chs.length D - 1) wt h1 (by omega) (by rw [show (((cnt chs.length D - 1 : Nat) : Int) + 1) = (cnt chs.length D : Int) by omega]; exact h2)
    have hw' := h2.setSt (((cnt chs.length D - 1 : Nat) : Int) * KK + wt)
    have hrl0 := h.rl k hk (by rw [hkd]; rfl)
    have hrl' : Rl (ShN Wg) Wg (t ++ MemOp.ofEvents (L0 + k) g.frame.fn g.frame.place #[rd (stA Wg), wr (stA Wg)]) (L0 + k) (D k).r := rl_atom hrl0 hd fun e he => by
      simp at he
      exact ⟨stA Wg, rfl, he⟩
    have hes : ∀ e ∈ #[rd (stA Wg), wr (stA Wg)], (∀ x, (MemAct.ofEvent e).touch? = some x → (ShN Wg x.loc ∧ x.kind ≠ .plain ∧ x.kind ≠ .said)) ∧ e.loc ≠ .mark (.release (stA Wg)) := fun e he => by
      simp at he
      exact he.elim (fun e => e ▸ touch_rd _ rfl) (fun e => e ▸ touch_wr _ rfl)
    by_cases hlast : cnt chs.length D - 1 = 0 ∧ wt = 1
    · obtain ⟨T, hT'⟩ := (e2 hlast).sit fun y hy => hy.2.1
      exact work_rank hQ h (D' := ⟨.d2, T, 0, (D k).r⟩) hc hg (by rw [hs.step]; exact e1) hnr (by simp) (.inr ⟨0, _, _, _, rfl, hw'⟩) hes (by rw [deaf_rw, hd]; exact hT') (fun _ => hrl') (not_blocked_of_run hT') ((h3 _ _ _ hw').2 hlast rfl) (by rw [hkd]; simp [wrank])
    · obtain ⟨q, hq'⟩ := e3 hlast
      exact work_rank hQ h (D' := ⟨.quit, .leaf, q, (D k).r⟩) hc hg (by rw [hs.step]; exact e1) hnr (by simp) (.inr ⟨0, _, _, _, rfl, hw'⟩) hes (by rw [deaf_rw, hd]; exact ⟨hq', (hQ k).wg _ _ 0 _ _ _ (by omega) hq h2⟩) (fun _ => hrl') (not_blocked_of_quit hq') ((h3 _ _ _ hw').1 hlast rfl) (by rw [hkd]; simp [wrank])
  | d2 =>
    rw [hkd] at hsit
    obtain ⟨g0, hs, hd, _, hstep⟩ := RunSit.leaf hsit
    dsimp only at hd hstep
    obtain ⟨rfl, h1, h2⟩ := mode_last h.mode hn hk (by rw [hkd]; rfl) (by rw [hkd]; simp)
    have hwg : WgAt 125 Wg w 1 0 := by
      rcases h2 with ⟨_, x⟩ | ⟨x, _⟩
      · exact x
      · rw [hkd] at x; cases x
    obtain ⟨g', e1, e2⟩ := hstep hwg
    obtain ⟨T, hT'⟩ := e2.sit fun y hy => hy.2.1
    refine work_rank hQ h (D' := ⟨.d3, T, 0, (D k).r⟩) hc hg (by rw [hs.step]; exact e1) hnr (by simp) (.inl rfl) (fun e he => by simp at he; exact he ▸ touch_rd _ rfl) (by rw [deaf_rd, hd]; exact hT') (fun _ => rl_atom (h.rl k hk (by rw [hkd]; rfl)) hd fun e he => ⟨stA Wg, rfl, .inl (by simpa using he)⟩) (not_blocked_of_run hT') (.inr (.inl ⟨k, hk, fun j hj hne => by rw [upd_ne _ _ hne]; exact h1 j hj hne, .inl ⟨by rw [upd_same]; exact .inr rfl, hwg⟩⟩)) (by rw [hkd]; simp [wrank])
  | d3 =>
    rw [hkd] at hsit
    obtain ⟨g0, hs, hd, _, hstep⟩ := RunSit.leaf hsit
    dsimp only at hd hstep
    obtain ⟨rfl, h1, h2⟩ := mode_last h.mode hn hk (by rw [hkd]; rfl) (by rw [hkd]; simp)
    have hwg : WgAt 125 Wg w 1 0 := by
      rcases h2 with ⟨_, x⟩ | ⟨x, _⟩
      · exact x
      · rw [hkd] at x; cases x
    obtain ⟨g', e1, e2⟩ := hstep hwg
    obtain ⟨T, hT'⟩ := e2.sit fun y hy => hy.2.1
    exact work_rank hQ h (D' := ⟨.d4, T, 0, (D k).r⟩) hc hg (by rw [hs.step]; exact e1) hnr (by simp) (.inr ⟨0, _, _, _, rfl, hwg.setSt 0⟩) (fun e he => by simp at he; exact he ▸ touch_wr _ rfl) (by rw [deaf_wr, hd]; exact hT') (fun _ => rl_atom (h.rl k hk (by rw [hkd]; rfl)) hd fun e he => ⟨stA Wg, rfl, .inr (by simpa using he)⟩) (not_blocked_of_run hT') (.inr (.inl ⟨k, hk, fun j hj hne => by rw [upd_ne _ _ hne]; exact h1 j hj hne, .inr ⟨by rw [upd_same], hwg.setSt 0⟩⟩)) (by rw [hkd]; simp [wrank])
  | d4 =>
    rw [hkd] at hsit
    obtain ⟨g0, hs, hd, _, hmw, hq, hstep⟩ := RunSit.leaf hsit
    dsimp only at hd hstep hq hmw
    obtain ⟨rfl, h1, h2⟩ := mode_last h.mode hn hk (by rw [hkd]; rfl) (by rw [hkd]; simp)
    have hwg : WgAt 125 Wg w 0 0 := by
      rcases h2 with ⟨x | x, _⟩ | ⟨_, x⟩
      · rw [hkd] at x; cases x
      · rw [hkd] at x; cases x
      · exact x
    obtain ⟨g', q, e1, e2⟩ := hstep hwg
    have hmw' : mayWake P g = true := by
      have : mayWake P g = mayWake P g0 := by unfold mayWake; rw [hs.1]
      rw [this]; exact hmw
    refine work_rank hQ h (D' := ⟨.quit, .leaf, q, (D k).r⟩) hc hg (by rw [hs.step]; exact e1) hnr (by simp) (.inr ⟨1, _, _, _, rfl, hwg.setSm 1⟩) (touch_sem _ rfl) (by rw [deaf_sem, hd]; exact ⟨e2, (hQ k).wg _ _ 1 _ _ _ (by omega) hq hwg⟩) (fun _ => ?_) (not_blocked_of_quit e2) (.inr (.inr ⟨fun j hj => ?_, hwg.setSm 1, ?_⟩)) (by rw [hkd]; simp [wrank])
    · refine (h.rl k hk (by rw [hkd]; rfl)).ownS _ _ _ fun j e hj => ?_
      have hjl : j < 4 := by
        have := (Array.getElem?_eq_some_iff.1 hj).1
        simpa [semEvents] using this
      have hcase : (j = 0 ∧ e = ⟨.mark .disable, false, true⟩) ∨ (j = 1 ∧ e = rd (smA Wg)) ∨ (j = 2 ∧ e = wr (smA Wg)) ∨ (j = 3 ∧ e = ⟨.mark .enable, false, true⟩) := by
        rcases (by omega : j = 0 ∨ j = 1 ∨ j = 2 ∨ j = 3) with rfl | rfl | rfl | rfl
        · exact .inl ⟨rfl, by simpa [semEvents] using hj.symm⟩
        · exact .inr (.inl ⟨rfl, by simpa [semEvents, rd] using hj.symm⟩)
        · exact .inr (.inr (.inl ⟨rfl, by simpa [semEvents, wr] using hj.symm⟩))
        · exact .inr (.inr (.inr ⟨rfl, by simpa [semEvents] using hj.symm⟩))
      rcases hcase with ⟨rfl, rfl⟩ | ⟨rfl, rfl⟩ | ⟨rfl, rfl⟩ | ⟨rfl, rfl⟩
      · exact .inl rfl
      · exact .inr ⟨⟨smA Wg, false, rfl, smA Wg, rfl, rfl⟩, by simp [semEvents, deafBehind]⟩
      · exact .inr ⟨⟨smA Wg, true, rfl, smA Wg, rfl, rfl⟩, by simp [semEvents, deafBehind]⟩
      · exact .inl rfl
    · by_cases e : j = k
      · subst e; rw [upd_same]
      · rw [upd_ne _ _ e]; exact h1 j hj e
    · obtain ⟨a, ha, hm⟩ := h.main
      rcases hm.status with hst | ⟨_, _, _, _, _, hx, _⟩ | ⟨_, hb, ho⟩
      · exact ⟨a, by rw [ha]; simp [woken_run hst], hst⟩
      · cases hx
      · refine ⟨woken P g g' (w.setCell (smA Wg) (.int .u32 1)) a, by rw [ha]; rfl, ?_⟩
        have hcond : (mayWake P g && g'.status != .blocked && g'.status != .waiting) = true := by
          rw [hmw']
          rcases e2.status with e | e <;> rw [e] <;> rfl
        unfold woken
        rw [if_pos hcond]
        unfold Goroutine.again
        rw [hb, ho]
  | quit => exact work_quit hQ h hc hg hr hkd
end

end Go.Proofs.Ytgpplekabohneaa.Co

namespace Go.Proofs.Ytgpplekabohneaa.Co
open Go Go.Conc Go.ConcN
open Go.ConcR (KK WgAt stA smA rd wr)

theorem mode_swap {Wg n k : Nat} {D : Nat → WD} {D' : WD} {w : World} {r : Prop} {M : MK} (h : Mode Wg n D w r M) (hk : k < n) (hc : counted (D k).k = true) (hc' : counted D'.k = true) : Mode Wg n (upd D k D') w r M := by
  have hcn : cnt n (upd D k D') = cnt n D := by
    have := cnt_upd (D := D) (D' := D') hk
    have c1 : cw (D k) = 1 := by unfold cw; rw [hc]; rfl
    have c2 : cw D' = 1 := by unfold cw; rw [hc']; rfl
    omega
  have hall : (∀ j, j < n → counted (D j).k = true ∨ (D j).k = .quit) → ∀ j, j < n → counted (upd D k D' j).k = true ∨ (upd D k D' j).k = .quit := fun x j hj => by
    by_cases e : j = k
    · subst e; rw [upd_same]; exact .inl hc'
    · rw [upd_ne _ _ e]; exact x j hj
  have nq : ∀ (x : WK), counted x = true → x ≠ .quit := fun x hx e => by rw [e] at hx; cases hx
  cases M using MK.cs with
  | script s => trivial
  | shut m op => exact ⟨by rw [hcn]; exact h.1, hall h.2⟩
  | w1 N => exact ⟨by rw [hcn]; exact h.1, by rw [hcn]; exact h.2.1, hall h.2.2⟩
  | w2 m N => exact ⟨by rw [hcn]; exact h.1, by rw [hcn]; exact h.2.1, hall h.2.2⟩
  | w3 =>
    rcases h with ⟨a, b, c'⟩ | ⟨j, a, b, c'⟩ | ⟨a, b, c'⟩
    · exact .inl ⟨by rw [hcn]; exact a, by rw [hcn]; exact b, hall c'⟩
    · exfalso
      by_cases hjk : k = j
      · subst hjk
        rcases c' with ⟨x | x, _⟩ | ⟨x, _⟩ <;> rw [x] at hc <;> cases hc
      · exact nq _ hc (b k hk hjk)
    · exact absurd (a k hk) (nq _ hc)
  | w4 => exact absurd (h.1 k hk) (nq _ hc)
  | acq => exact absurd (h k hk) (nq _ hc)

theorem exists_count : ∀ {n : Nat} {D : Nat → WD}, 1 ≤ cnt n D → ∃ k, k < n ∧ counted (D k).k = true
  | 0, _, h => by simp [cnt, sumTo] at h
  | n + 1, D, h => by
    cases hc : counted (D n).k with
    | true => exact ⟨n, by omega, hc⟩
    | false =>
      have : 1 ≤ cnt n D := by
        have e : cw (D n) = 0 := by unfold cw; rw [hc]; rfl
        unfold cnt at h ⊢
        rw [sumTo, e] at h
        omega
      obtain ⟨k, hk, h'⟩ := exists_count this
      exact ⟨k, by omega, h'⟩

section
variable {P : Program} {Wg : Nat} {z : Value} {Q : Nat → Own → World → Prop} {Next : Pos → Prop} {Shun : Loc → Prop} {L0 : Nat}
  {gs : Array Goroutine} {w : World} {t : Trace} {chs : List Nat} {M : MK} {TM : Tree} {D : Nat → WD} {Ow : Nat → Own} {own : Loc → Nat} {q0 : Nat → Nat} {sl : Option (Nat × Nat)}

theorem upd_id {α : Type} (f : Nat → α) (k : Nat) : upd f k (f k) = f := by
  funext j
  by_cases e : j = k
  · subst e; rw [upd_same]
  · rw [upd_ne _ _ e]

/-- A worker at its receive. -/
theorem work_recv (hQ : ∀ k, Steady (Q k) Wg) (h : Inv P Wg z Q Next Shun L0 gs w t chs M TM D Ow own q0) {k c : Nat} {g : Goroutine} {l : List Value} (hc : chs[k]? = some c) (hg : gs[L0 + k]? = some g) (hr : g.status = .running) (hT : (D k).T = .leaf) (hkd : (D k).k = .recv l) :
    ∃ m' ops, runT P (crowd gs w sl) (L0 + k) = (.next m', ops) ∧ Nx P Wg z Q Next Shun L0 (chs.length + goesM M) (meas L0 gs chs.length M TM D q0) m' (t ++ ops) := by
  have l0 := h.l0
  have hk := lt_chs hc
  have hi0 : (L0 + k == 0) = false := by simp; omega
  obtain ⟨y, hy, hsit0⟩ := h.wk k c hc
  rw [hg] at hy; cases hy
  have hsit := hsit0
  unfold WSit at hsit
  rw [hT, hkd] at hsit
  have hltk : L0 + k < gs.size := (Array.getElem?_eq_some_iff.1 hg).1
  replace hsit : RunSit P false (EvWk Wg) (RStop P Wg z (Q k) c l) .leaf (Ow (L0 + k)) (Deaf t (L0 + k)) w g := by
    rcases hsit with hsit | ⟨_, g0, _, hpk⟩
    · exact hsit
    · rw [hpk] at hr; cases hr
  obtain ⟨_, g0, hs, hfit⟩ := hsit
  have hstop := hfit w (Rely.refl _ _)
  obtain ⟨hd, hr0, hcomm⟩ := hstop.running
  dsimp only at hd hcomm hr0
  have hst : stepG P (L0 + k == 0) g w = .comm g0 #[rcase c z] true (.recv true) w #[] := by rw [hi0, hs.step]; exact hcomm w
  obtain ⟨s, hcs⟩ := h.ch c (mem_chs hc)
  obtain ⟨a, ha, hm⟩ := h.main
  have hlt0 : 0 < gs.size := (Array.getElem?_eq_some_iff.1 ha).1
  have hl := (h.rcv k c hc).1 l hkd
  cases hsb : shutB M c with
  | false =>
    rw [hsb] at hcs
    -- does the starter wait to send here?
    rcases Classical.em (∃ v s' a0, M = .script (.send k v :: s') ∧ a = parked a0 #[scase c v zS] .send) with ⟨v, s', a0, rfl, rfl⟩ | hno
    · -- the two meet
      have hml : TM = .leaf ∧ ∃ a1, parked a0 #[scase c v zS] .send = parked a1 #[scase c v zS] .send ∧ Fits P true (EvMn Wg) (MStop P Wg z Q Next (.send k v :: s') chs) .leaf ⟨Ow 0, Deaf t 0, a1, w⟩ := by
        rcases hm with hm | ⟨e1, g1, k1, v1, s1, c1, e2, e3, e4, e5⟩
        · cases hm.1
        · cases e2
          rw [hc] at e3; cases e3
          exact ⟨e1, g1, e5, e4⟩
      obtain ⟨rfl, a1, hpe, hfa⟩ := hml
      rw [hpe] at ha
      obtain ⟨d0, _, c1, hc1, _, hrun⟩ := hfa w (Rely.refl _ _)
      dsimp only at d0 hrun
      rw [hc] at hc1; cases hc1
      simp only [valsM, valsOf, if_true] at hl
      subst hl
      obtain ⟨_, _, _, hrunW⟩ := hstop
      dsimp only at hrunW
      have hp : partners (gs.setIfInBounds (L0 + k) ph) c true = [(0, 0)] := by
        rw [partners_one (j := 0) (g := parked a1 #[scase c v zS] .send) (by rw [Array.getElem?_setIfInBounds_ne (by omega)]; exact ha) (fun j x hj hx => ?_), offersAt_parked_send, if_pos rfl]
        · rfl
        · by_cases hjk : j = L0 + k
          · subst hjk
            rw [Array.getElem?_setIfInBounds_self_of_lt hltk] at hx
            cases hx
            exact offersAt_ph _ _
          · rw [Array.getElem?_setIfInBounds_ne (Ne.symm hjk)] at hx
            have hlt : j < gs.size := (Array.getElem?_eq_some_iff.1 hx).1
            rcases Nat.lt_or_ge j L0 with hl | hl
            · have hq := h.old j x (by omega) hl hx
              exact offersAt_of_not_blocked (by rcases hq.status with e | e <;> rw [e] <;> simp) _ _
            · obtain ⟨k', rfl⟩ : ∃ k, j = L0 + k := ⟨j - L0, by omega⟩
              obtain ⟨c', hc'⟩ := get_chs (chs := chs) (k := k') (by have := h.size; omega)
              obtain ⟨y, hy, hsit⟩ := h.wk k' c' hc'
              rw [hx] at hy; cases hy
              rcases hsit.status with e | ⟨l, g1, _, e⟩ | ⟨_, e⟩
              · exact offersAt_of_not_blocked (by rw [e]; simp) _ _
              · rw [e, offersAt_parked_recv']
              · exact offersAt_of_not_blocked (by rw [e]; simp) _ _
      have hw := crowd_recv_meets (P := P) (sl := sl) (i := L0 + k) (j := 0) hg hst hcs (by omega) ha hp
      obtain ⟨T1, hT1⟩ := hrun.sit fun y => MStop.running
      obtain ⟨T2, hT2⟩ := hrunW.sit fun y hy => hy.running.2.1
      have hevs : MemOp.ofEvents (L0 + k) g.frame.fn g.frame.place #[] = #[] := rfl
      obtain ⟨c1, c2⟩ := comm_ops (n := gs.size) (u := MemOp.ofEvents (L0 + k) g.frame.fn g.frame.place #[] ++ #[{ g := 0, fn := a1.frame.fn, pos := a1.frame.place, act := .send c s }, { g := L0 + k, fn := g0.frame.fn, pos := g0.frame.place, act := .recv c s 0 }, { g := 0, fn := a1.frame.fn, pos := a1.frame.place, act := .sendDone c s }, { g := L0 + k, fn := g0.frame.fn, pos := g0.frame.place, act := .recvDone c s }]) (fun op hop => by
        rw [hevs] at hop
        simp only [Array.empty_append, List.mem_toArray, List.mem_cons, List.not_mem_nil, or_false] at hop
        rcases hop with rfl | rfl | rfl | rfl
        · exact ⟨hlt0, .inl ⟨_, _, .inl rfl⟩⟩
        · exact ⟨hltk, .inr (.inl ⟨_, _, _, rfl⟩)⟩
        · exact ⟨hlt0, .inl ⟨_, _, .inr (.inl rfl)⟩⟩
        · exact ⟨hltk, .inl ⟨_, _, .inr (.inr rfl)⟩⟩)
      obtain ⟨Ow', hI, hlt⟩ := h.meets hQ (gs' := (gs.setIfInBounds 0 (Conc.served a1 undef)).setIfInBounds (L0 + k) (Conc.served g0 (recvd true v true))) hc hcs hT hkd (by simp) (by rw [Array.getElem?_setIfInBounds_ne (by omega), Array.getElem?_setIfInBounds_self_of_lt hlt0]) (by rw [Array.getElem?_setIfInBounds_self_of_lt (by simpa using hltk)])
        (fun j h1 h2 => by rw [Array.getElem?_setIfInBounds_ne (Ne.symm h2), Array.getElem?_setIfInBounds_ne (Ne.symm h1)]) c1 c2 d0 hd hT1 hT2
      exact ⟨_, _, hw, .inl ⟨_, _, sl, chs, _, T1, _, _, own, q0, rfl, hI, rfl, .single hlt⟩⟩
    · -- it waits
      have hp : partners (gs.setIfInBounds (L0 + k) ph) c true = [] := partners_nil (partner_send h (L0 + k) (.inr fun b k1 v1 s1 c1 g1 e1 e2 e3 e4 => by
        rw [ha] at e1; cases e1
        intro e5
        subst e5
        have := nodup_idx h.nd e3 hc
        subst this
        exact hno ⟨v1, s1, g1, e2, e4⟩))
      have hw := crowd_waits (P := P) (sl := sl) (i := L0 + k) hg hst (fun cc hcc => by
        simp at hcc
        subst hcc
        exact ways_recv_none hcs hp)
      have hI := h.comm hQ (M' := M) (TM' := TM) (D' := D k) (O' := Ow (L0 + k)) (u := #[]) (gs' := gs.setIfInBounds (L0 + k) (parked g0 #[rcase c z] (.recv true))) (w' := w) (a' := a) (g' := parked g0 #[rcase c z] (.recv true)) hc (by simp)
        (by rw [Array.getElem?_setIfInBounds_ne (by omega)]; exact ha) (by rw [Array.getElem?_setIfInBounds_self_of_lt hltk]) (fun j _ hj => by rw [Array.getElem?_setIfInBounds_ne (Ne.symm hj)]) rfl (fun _ _ _ _ => Rely.refl _ _) (by simp) (by simp) rfl rfl (fun b hb => h.ow.x _ (actk hk) b hb) rfl
        hm (by unfold WSit; rw [hkd, hT]; exact .inr ⟨rfl, g0, hfit, rfl⟩) h.ch (fun _ => rfl) (by rw [hkd]; rfl) (fun _ => hsb)
        (fun j v2 s2 y e1 e2 e3 => by
          by_cases hjk : j = k
          · subst hjk
            exfalso
            rcases hm.status with x | ⟨k1, v1, s1, c1, g1, x1, x2, x3⟩ | ⟨x, _⟩
            · rw [x] at e2; cases e2
            · rw [e1] at x1; cases x1
              rw [hc] at x2; cases x2
              exact hno ⟨v2, s2, g1, e1, x3⟩
            · rw [x] at e1; cases e1
          · rw [Array.getElem?_setIfInBounds_ne (by omega)] at e3
            exact h.both j v2 s2 a y e1 ha e2 e3)
        (fun j c' hc' => by rw [upd_id]; exact h.rcv j c' hc') (by rw [upd_id]; exact h.mode.of_heap (.inr rfl) fun ⟨b, e1, e2⟩ => by rw [ha] at e1; cases e1; exact ⟨a, rfl, e2⟩) h.len h.sok
      rw [upd_id, upd_id] at hI
      exact ⟨_, _, hw, .inl ⟨_, w, sl, chs, M, TM, D, _, own, q0, rfl, hI, rfl, .single (lt4_bit rfl rfl rfl (bits_park hg hr rfl))⟩⟩
  | true =>
    rw [hsb] at hcs
    have hn : ∀ s, M ≠ .script s := fun s e => by rw [e] at hsb; cases hsb
    have hl' : l = [] := by
      rw [hl]
      cases M using MK.cs with
      | script s => exact absurd rfl (hn s)
      | _ => rfl
    subst hl'
    have hcnt : counted (D k).k = true := by rw [hkd]; rfl
    obtain ⟨wt, _, hwg, _⟩ := mode_counted h.mode hn hk hcnt
    have hrun := hstop.2.2.2 ⟨_, _, hwg⟩
    dsimp only at hrun
    obtain ⟨T, hT'⟩ := hrun.sit fun y hy => hy.2.1
    have hp : partners (gs.setIfInBounds (L0 + k) ph) c true = [] := partners_nil (partner_send h (L0 + k) (.inr fun b k1 v1 s1 c1 g1 e1 e2 e3 e4 => absurd e2 (hn _)))
    have hw := crowd_recv_closed (P := P) (sl := sl) (i := L0 + k) hg hst hcs hp
    have hevs : MemOp.ofEvents (L0 + k) g.frame.fn g.frame.place #[] = #[] := rfl
    obtain ⟨c1, c2⟩ := comm_ops (n := gs.size) (u := MemOp.ofEvents (L0 + k) g.frame.fn g.frame.place #[] ++ #[{ g := L0 + k, fn := g0.frame.fn, pos := g0.frame.place, act := .recvClosed c }]) (fun op hop => by
      rw [hevs] at hop
      simp only [Array.empty_append, List.mem_toArray, List.mem_cons, List.not_mem_nil, or_false] at hop
      subst hop
      exact ⟨hltk, .inr (.inr ⟨_, rfl⟩)⟩)
    have hre : ∀ i, Act L0 chs.length i → i ≠ 0 → i ≠ L0 + k → Rely (Ow i) w w := fun _ _ _ _ => Rely.refl _ _
    have hI := h.comm hQ (M' := M) (TM' := TM) (D' := ⟨.fin, T, 0, 0⟩) (O' := ⟨(Ow (L0 + k)).B, (Ow (L0 + k)).C, fun b => b = Wg⟩) (gs' := gs.setIfInBounds (L0 + k) (Conc.served g0 (recvd true z false))) (w' := w) (a' := a) (g' := Conc.served g0 (recvd true z false)) hc (by simp)
      (by rw [Array.getElem?_setIfInBounds_ne (by omega)]; exact ha) (by rw [Array.getElem?_setIfInBounds_self_of_lt hltk]) (fun j _ hj => by rw [Array.getElem?_setIfInBounds_ne (Ne.symm hj)]) rfl hre c1 c2 rfl rfl (fun b hb => by subst hb; exact fb_wg hn) rfl
      hm (by rw [hd]; exact hT') h.ch (fun _ => rfl) rfl (fun e => by cases e) (fun j v2 s2 y e1 _ _ => absurd e1 (hn _))
      (fun j c' hc' => by
        by_cases e : j = k
        · subst e
          rw [hc] at hc'; cases hc'
          rw [upd_same]
          exact ⟨fun l hl => (by cases hl), fun x => (by rw [hsb] at x; cases x)⟩
        · rw [upd_ne _ _ e]; exact h.rcv j c' hc')
      (mode_swap (h.mode.of_heap (.inr rfl) fun ⟨b, e1, e2⟩ => by rw [ha] at e1; cases e1; exact ⟨a, rfl, e2⟩) hk hcnt rfl) h.len h.sok
    refine ⟨_, _, hw, .inl ⟨_, w, sl, chs, M, TM, _, _, own, q0, rfl, hI, rfl, .single (lt4_rank ?_)⟩⟩
    have := rank_upd (D := D) (D' := ⟨.fin, T, 0, 0⟩) hk
    have e1 : wrank (D k).k = 7 := by rw [hkd]; rfl
    have e2 : wrank (⟨.fin, T, 0, 0⟩ : WD).k = 6 := rfl
    rw [e1, e2] at this
    omega

/-- A WORKER's STEP. -/
theorem work_step (hQ : ∀ k, Steady (Q k) Wg) (h : Inv P Wg z Q Next Shun L0 gs w t chs M TM D Ow own q0) {k c : Nat} {g : Goroutine} (hc : chs[k]? = some c) (hg : gs[L0 + k]? = some g) (hr : g.status = .running) :
    ∃ m' ops, runT P (crowd gs w sl) (L0 + k) = (.next m', ops) ∧ Nx P Wg z Q Next Shun L0 (chs.length + goesM M) (meas L0 gs chs.length M TM D q0) m' (t ++ ops) := by
  obtain ⟨y, hy, hsit⟩ := h.wk k c hc
  rw [hg] at hy; cases hy
  cases hT : (D k).T using Tree.cs with
  | leaf =>
    rcases Classical.em (∃ l, (D k).k = .recv l) with ⟨l, hl⟩ | hl
    · exact work_recv hQ h hc hg hr hT hl
    · exact work_stop hQ h hc hg hr hT fun l e => hl ⟨l, e⟩
  | node f =>
    unfold WSit at hsit
    rw [hT] at hsit
    cases hkd : (D k).k using WK.cs with
    | recv l =>
      rw [hkd] at hsit
      rcases hsit with hsit | ⟨e, _⟩
      · exact work_idle hQ h hc hg hT hsit (fun y hy => hy.running.2.1) (.inl ⟨rfl, by rw [hkd]; rfl⟩) fun T O d w g x => by rw [hkd]; exact .inl x
      · cases e
    | fin =>
      rw [hkd] at hsit
      exact work_idle hQ h hc hg hT hsit (fun y hy => hy.2.1) (.inl ⟨rfl, by rw [hkd]; rfl⟩) fun T O d w g x => by rw [hkd]; exact x
    | rel =>
      rw [hkd] at hsit
      exact work_idle hQ h hc hg hT hsit (fun y hy => hy.2.1) (.inr rfl) fun T O d w g x => by rw [hkd]; exact x
    | d2 =>
      rw [hkd] at hsit
      exact work_idle hQ h hc hg hT hsit (fun y hy => hy.2.1) (.inr rfl) fun T O d w g x => by rw [hkd]; exact x
    | d3 =>
      rw [hkd] at hsit
      exact work_idle hQ h hc hg hT hsit (fun y hy => hy.2.1) (.inr rfl) fun T O d w g x => by rw [hkd]; exact x
    | d4 =>
      rw [hkd] at hsit
      exact work_idle hQ h hc hg hT hsit (fun y hy => hy.2.1) (.inr rfl) fun T O d w g x => by rw [hkd]; exact x
    | quit => exact work_quit hQ h hc hg hr hkd

/-- NO DEADLOCK. -/
theorem Inv.someone (h : Inv P Wg z Q Next Shun L0 gs w t chs M TM D Ow own q0) : ∃ (i : Nat) (g : Goroutine), gs[i]? = some g ∧ g.status = .running := by
  obtain ⟨a, ha, hm⟩ := h.main
  rcases hm.status with hs | ⟨k, v, s', c, g0, h1, h2, h3⟩ | ⟨h1, h2, h3⟩
  · exact ⟨0, a, ha, hs⟩
  · obtain ⟨g, hg, hsit⟩ := h.wk k c h2
    have hnb := h.both k v s' a g h1 ha (by rw [h3]; rfl) hg
    obtain ⟨l, hl⟩ := (h.rcv k c h2).2 (by rw [h1]; rfl)
    rcases hsit.status with e | ⟨_, g1, _, e⟩ | ⟨e, _⟩
    · exact ⟨_, g, hg, e⟩
    · rw [e] at hnb; exact absurd rfl hnb
    · rw [hl] at e; cases e
  · subst h1
    have run : ∀ k, k < chs.length → (D k).k ≠ .quit → ∃ (i : Nat) (g : Goroutine), gs[i]? = some g ∧ g.status = .running := fun k hk hq => by
      obtain ⟨c, hc⟩ := get_chs hk
      obtain ⟨g, hg, hsit⟩ := h.wk k c hc
      rcases hsit.status with e | ⟨_, g1, _, e⟩ | ⟨e, _⟩
      · exact ⟨_, g, hg, e⟩
      · have := h.par k c g hc hg (by rw [e]; rfl)
        cases this
      · exact absurd e hq
    rcases h.mode with ⟨x1, x2, x3⟩ | ⟨j, x1, x2, x3⟩ | ⟨x1, x2, b, x3, x4⟩
    · obtain ⟨k, hk, hc⟩ := exists_count x1
      exact run k hk fun e => by rw [e] at hc; cases hc
    · refine run j x1 fun e => ?_
      rcases x3 with ⟨y | y, _⟩ | ⟨y, _⟩ <;> rw [e] at y <;> cases y
    · rw [ha] at x3; cases x3
      rw [h2] at x4; cases x4

theorem Inv.awake (h : Inv P Wg z Q Next Shun L0 gs w t chs M TM D Ow own q0) : ∀ g ∈ gs, awake g := by
  intro g hg
  obtain ⟨i, hi, rfl⟩ := Array.mem_iff_getElem.1 hg
  have hx := Array.getElem?_eq_getElem hi
  rcases Nat.eq_zero_or_pos i with rfl | hpos
  · obtain ⟨a, ha, hm⟩ := h.main
    rw [hx] at ha
    cases ha
    rcases hm.status with hs | ⟨_, _, _, _, g0, _, _, h3⟩ | ⟨_, h2, _⟩
    · exact awake_of (.inl hs)
    · exact awake_of (.inr (.inl (by rw [h3]; rfl)))
    · exact awake_of (.inr (.inl h2))
  · rcases Nat.lt_or_ge i L0 with hl | hl
    · exact awake_of ((h.old i _ hpos hl hx).status.elim .inl fun x => .inr (.inr x))
    · obtain ⟨k, rfl⟩ : ∃ k, i = L0 + k := ⟨i - L0, by omega⟩
      obtain ⟨c, hc⟩ := get_chs (chs := chs) (k := k) (by have := h.size; omega)
      obtain ⟨g, hg, hsit⟩ := h.wk k c hc
      rw [hx] at hg
      cases hg
      rcases hsit.status with e | ⟨_, g1, _, e⟩ | ⟨_, e⟩
      · exact awake_of (.inl e)
      · exact awake_of (.inr (.inl (by rw [e]; rfl)))
      · exact awake_of (.inr (.inr e))

/-- EVERY STEP. -/
theorem batch_step (hQ : ∀ k, Steady (Q k) Wg) (h : Inv P Wg z Q Next Shun L0 gs w t chs M TM D Ow own q0) (sl : Option (Nat × Nat)) :
    ∃ m' ops, stepT P (crowd gs w sl) = (.next m', ops) ∧ Nx P Wg z Q Next Shun L0 (chs.length + goesM M) (meas L0 gs chs.length M TM D q0) m' (t ++ ops) := by
  obtain ⟨i, g, d, sl', hi, hr, hst⟩ := crowd_pick (P := P) (w := w) (sl := sl) h.awake h.someone
  rw [hst]
  have h' := h.at hQ d
  rcases Nat.eq_zero_or_pos i with rfl | hpos
  · exact main_step hQ h' hi hr
  · rcases Nat.lt_or_ge i L0 with hl | hl
    · have hq := h'.old i g hpos hl hi
      have hi0 : (i == 0) = false := by simp; omega
      cases hqi : q0 i with
      | zero => rw [hqi] at hq; rw [hq.1] at hr; cases hr
      | succ k =>
        rw [hqi] at hq
        rcases hq with ⟨hf, _⟩ | ⟨_, g', es, hm, hstp, hq'⟩
        · rw [hf] at hr; cases hr
        have hrunT := runT_crowd_go (P := P) (sl := sl') (i := i) hi (by rw [hi0]; exact hstp (w.at d))
        refine ⟨_, _, hrunT, .inl ⟨_, _, sl', chs, M, TM, D, Ow, own, upd q0 i k, rfl, h'.slip hpos hl hi hm hq', rfl, .single (lt4_q rfl rfl ?_)⟩⟩
        have : sumTo L0 (upd q0 i k) + q0 i = sumTo L0 q0 + k := sumTo_upd q0 k id hl
        omega
    · obtain ⟨k, rfl⟩ : ∃ k, i = L0 + k := ⟨i - L0, by omega⟩
      obtain ⟨c, hc⟩ := get_chs (chs := chs) (k := k) (by have := h.size; have := (Array.getElem?_eq_some_iff.1 hi).1; omega)
      exact work_step hQ h' hc hi hr

/-- THE MACHINE COMES TO THE WORD THAT TAKES OVER, ON EVERY TAPE. -/
theorem batch_runs (hQ : ∀ k, Steady (Q k) Wg) (tot : Nat) : ∀ (μ : Me) (gs : Array Goroutine) (w : World) (sl : Option (Nat × Nat)) (t : Trace) (chs : List Nat) (M : MK) (TM : Tree) (D : Nat → WD) (Ow : Nat → Own) (own : Loc → Nat) (q0 : Nat → Nat), μ = meas L0 gs chs.length M TM D q0 → chs.length + goesM M = tot →
    Inv P Wg z Q Next Shun L0 gs w t chs M TM D Ow own q0 → Reaches P (crowd gs w sl) t (Aft P Wg Q Next Shun L0 tot) := by
  intro μ
  induction μ using lt4_wf.transGen.induction with
  | _ μ ih =>
    rintro gs w sl t chs M TM D Ow own q0 rfl htot h
    obtain ⟨m', ops, h1, h2⟩ := batch_step hQ h sl
    rw [htot] at h2
    rcases h2 with ⟨gs', w', sl', chs', M', TM', D', Ow', own', q0', rfl, hI, htot', hlt⟩ | ha
    · exact .step h1 (ih _ hlt _ _ _ _ _ _ _ _ _ _ _ rfl htot' hI)
    · exact .step h1 (.here ha)
end

end Go.Proofs.Ytgpplekabohneaa.Co
