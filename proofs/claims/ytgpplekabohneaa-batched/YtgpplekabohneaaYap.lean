/- A worker whose channel is closed: the group's Done, and out. · The starter: its loop over the packets. · The starter: the region that draws its order: it looks its packet's tenant up. -/
import Derived.Test.YtgpplekabohneaaYao
import Derived.Conc.CompanyMem
namespace Go.Proofs.Ytgpplekabohneaa.Co
open Go Go.Conc Go.RowKit Go.ConcR.Gen Go.ConcN.Gen
open Go.ConcR (KK wgBlock WgAt stA smA rd wr mk DC0 Payload)
open Go.ConcN (WgLive RW DWs AtR0 AtK1 AtD1 AtD2 AtD3 AtD4 PayAt Has AsideCell EvW OkW ShN)

/-- A walk of the library's, over what is known. -/
theorem Run.of_goesK {P : Program} {main : Bool} {Ev : Own → Event → Prop} {Stop : Pos → Prop} {R : World → World → Prop} {D : World → World → Array Event → Prop} {S : Goroutine → World → Prop} {K : World → Prop} {O : Own} {d : Nat} (hR : ∀ w w₁, Rely O w w₁ → R w w₁) (hKR : ∀ w w₁, Rely O w w₁ → K w → K w₁)
    (hD : ∀ w w' es, K w → D w w' es → Guar O O w w' ∧ (∀ e ∈ es, Ev O e) ∧ deafBehind d es = d ∧ K w') (hS : ∀ g w, K w → (∀ w₁, Rely O w w₁ → K w₁ ∧ S g w₁) → Run P main Ev Stop ⟨O, d, g, w⟩) :
    ∀ {n : Nat} {g : Goroutine} {w : World}, K w → Goes P main R D S n g w → Run P main Ev Stop ⟨O, d, g, w⟩ := by
  intro n
  induction n with
  | zero => intro g w hk h; exact hS g w hk fun w₁ h₁ => ⟨hKR _ _ h₁ hk, h w₁ (hR _ _ h₁)⟩
  | succ n ih =>
    intro g w hk h
    rcases h with h | ⟨hs, h⟩
    · exact hS g w hk fun w₁ h₁ => ⟨hKR _ _ h₁ hk, h w₁ (hR _ _ h₁)⟩
    · refine Run.one hs fun w₁ h₁ => ?_
      have := h w₁ (hR _ _ h₁)
      cases hst : stepG P main g w₁ with
      | go g' w' es =>
        rw [hst, goes_go] at this
        obtain ⟨hd, hg⟩ := this
        obtain ⟨h1, h2, h3, h4⟩ := hD _ _ _ (hKR _ _ h₁ hk) hd
        exact ⟨⟨O, d, g', w'⟩, ⟨es, hst, h1, h2, h3.symm⟩, ih h4 hg⟩
      | _ => rw [hst] at this; exact this.elim

abbrev payl : Payload := ⟨104⟩

section
variable {Ev : Own → Event → Prop} {Q : Own → World → Prop} {O : Own} {Wg C : Nat}

theorem rw_of (hC : O.B C) (hX : O.X Wg) {w w₁ : World} (h : Rely O w w₁) : @RW payl 125 Wg C 5 0 0 w w₁ := by
  letI : Payload := payl
  exact ⟨fun b hb => absurd hb (by omega), fun hl => h.live Wg hX hl, fun ⟨cs, h1, h2⟩ => ⟨cs, (h.blk C hC).trans h1, h2⟩, by
    unfold World.cell?
    dsimp only
    rw [h.blk C hC]⟩

/-- Steps that turn nothing and list nothing. -/
theorem Run.of_still (hQ : Steady Q Wg) (hC : O.B C) (hX : O.X Wg) {d : Nat} {Stop : Pos → Prop} {S : Goroutine → World → Prop} (hS : ∀ g w, (∀ w₁, Rely O w w₁ → Q O w₁ ∧ S g w₁) → Run Try.prog false Ev Stop ⟨O, d, g, w⟩) {n : Nat} {g : Goroutine} {w : World}
    (hq : Q O w) (h : Goes Try.prog false (@RW payl 125 Wg C 5 0 0) DC0 S n g w) : Run Try.prog false Ev Stop ⟨O, d, g, w⟩ :=
  Run.of_goesK (K := Q O) (R := @RW payl 125 Wg C 5 0 0) (D := DC0) (fun _ _ h => rw_of hC hX h) (fun w w₁ h hq => hQ.rely O w w₁ hq h) (fun w w' es hq hd => ⟨(dc0_ok (O := O) (d := d) (Ev := Ev) w w' es hd).1, (dc0_ok (O := O) (d := d) (Ev := Ev) w w' es hd).2.1, (dc0_ok (O := O) (d := d) (Ev := Ev) w w' es hd).2.2, by obtain ⟨rfl, _⟩ := hd; exact hq⟩)
    (fun g w _ h => hS g w fun w₁ h₁ => h w₁ h₁) hq h

theorem d4_of (hQ : Steady Q Wg) (hC : O.B C) (hX : O.X Wg) {n : Nat} {g : Goroutine} {w : World} (hq : Q O w) (h : Goes Try.prog false (@RW payl 125 Wg C 5 0 0) DC0 (AtD4 Try.prog 125 Wg) n g w) : Run Try.prog false Ev (D4S Try.prog Q Wg) ⟨O, 1, g, w⟩ :=
  Run.of_still hQ hC hX (fun g w h => Run.here fun w₁ h₁ => by
    obtain ⟨hq, h1, h2, h3⟩ := h w₁ h₁
    exact ⟨rfl, h1, h2, hq, fun hw => by obtain ⟨g', h4, q, h5⟩ := h3 hw; exact ⟨g', q, h4, h5⟩⟩) hq h

theorem d3_of (hQ : Steady Q Wg) (hC : O.B C) (hX : O.X Wg) {n : Nat} {g : Goroutine} {w : World} (hq : Q O w) (h : Goes Try.prog false (@RW payl 125 Wg C 5 0 0) DC0 (@AtD3 payl Try.prog 125 Wg C 5 0 1) n g w) : Run Try.prog false Ev (D3S Try.prog Ev Q Wg) ⟨O, 1, g, w⟩ :=
  Run.of_still hQ hC hX (fun g w h => Run.here fun w₁ h₁ => by
    obtain ⟨hq, h1, h3⟩ := h w₁ h₁
    exact ⟨rfl, h1, fun hw => by obtain ⟨g', h4, m, h5⟩ := h3 hw; exact ⟨g', h4, d4_of hQ hC hX (hQ.wg _ _ 0 _ _ _ (by omega) hq hw) h5⟩⟩) hq h

theorem d2_of (hQ : Steady Q Wg) (hC : O.B C) (hX : O.X Wg) {n : Nat} {g : Goroutine} {w : World} (hq : Q O w) (h : Goes Try.prog false (@RW payl 125 Wg C 5 0 0) DC0 (@AtD2 payl Try.prog 125 Wg C 5 0 1) n g w) : Run Try.prog false Ev (D2S Try.prog Ev Q Wg) ⟨O, 1, g, w⟩ :=
  Run.of_still hQ hC hX (fun g w h => Run.here fun w₁ h₁ => by
    obtain ⟨hq, h1, h3⟩ := h w₁ h₁
    exact ⟨rfl, h1, fun hw => by obtain ⟨g', h4, m, h5⟩ := h3 hw; exact ⟨g', h4, d3_of hQ hC hX hq h5⟩⟩) hq h

theorem d1_of (hQ : Steady Q Wg) (hC : O.B C) (hX : O.X Wg) {n : Nat} {g : Goroutine} {w : World} (hq : Q O w) (h : Goes Try.prog false (@RW payl 125 Wg C 5 0 0) DC0 (@AtD1 payl Try.prog 125 Wg C 5 0 1) n g w) : Run Try.prog false Ev (D1S Try.prog Ev Q Wg) ⟨O, 1, g, w⟩ :=
  Run.of_still hQ hC hX (fun g w h => Run.here fun w₁ h₁ => by
    obtain ⟨hq, h1, h3⟩ := h w₁ h₁
    refine ⟨rfl, h1, hq, fun v wt hwt hv hw => ?_⟩
    obtain ⟨g', h4, h5, h6⟩ := h3 v wt hwt hv hw
    exact ⟨g', h4, fun hc => by obtain ⟨m, h7⟩ := h5 hc; exact d2_of hQ hC hX (hQ.wg _ _ 0 _ _ _ (by omega) hq hw) h7, h6⟩) hq h

theorem k1_of (hQ : Steady Q Wg) (hC : O.B C) (hX : O.X Wg) (hE : ∀ O, Ev O (mk .disable)) {n : Nat} {g : Goroutine} {w : World} (hq : Q O w) (h : Goes Try.prog false (@RW payl 125 Wg C 5 0 0) DC0 (@AtK1 payl Try.prog 125 Wg C 5 0 1) n g w) : Run Try.prog false Ev (D1S Try.prog Ev Q Wg) ⟨O, 0, g, w⟩ :=
  Run.of_still hQ hC hX (fun g w h => by
    refine Run.one (h w (Rely.refl _ _)).2.1 fun w₁ h₁ => ?_
    obtain ⟨hq, h1, g', h2, m, h3⟩ := h w₁ h₁
    exact ⟨⟨O, 1, g', w₁⟩, ⟨_, h2, Guar.refl O w₁, by simp; exact hE O, rfl⟩, d1_of hQ hC hX hq h3⟩) hq h

theorem r0_of {Ev0 : Own → Event → Prop} (hQ : Steady Q Wg) (hC : O.B C) (hX : O.X Wg) (hE : ∀ O, Ev O (mk .disable)) {v : Value} {g : Goroutine} {w : World} (h : ∀ w₁, Rely O w w₁ → Q O w₁ ∧ @AtR0 payl Try.prog 125 Wg C 5 0 1 v g w₁) : Run Try.prog false Ev0 (RelS Try.prog Ev Q Wg) ⟨O, 0, g, w⟩ :=
  Run.here fun w₁ h₁ => by
    obtain ⟨hq, h1, h2, g', h3, m, h4⟩ := h w₁ h₁
    exact ⟨rfl, h1, g', h3, k1_of hQ hC hX hE hq h4⟩

theorem dws_ok {d : Nat} (hC : O.B C) (hE : ∀ O e, @EvW Wg (fun _ _ => False) (fun _ _ => False) 1 e → Ev O e) (w w' : World) (es : Array Event) (hk : @PayAt payl C 5 w) (h : @DWs payl Wg (fun _ _ => False) (fun _ _ => False) C 5 1 w w' es) :
    Guar O O w w' ∧ (∀ e ∈ es, Ev O e) ∧ deafBehind d es = d ∧ @PayAt payl C 5 w' := by
  letI : Payload := payl
  obtain ⟨ha, he⟩ := h
  refine ⟨⟨Nat.le_of_eq ha.size.symm, ha.tape, ha.os, ha.output, fun _ x => .inl x, fun _ _ x => x, fun _ x => x, fun b _ hb _ => ha.block b (fun e => hb (e ▸ hC)), fun b o _ hb _ => ?_, fun b c e f hb => ?_⟩, fun e hx => hE O e (he e hx), deafBehind_still (fun e hx => ⟨(he e hx).2.1, (he e hx).2.2.1⟩) d, ha.pay hk⟩
  · have hne : b ≠ C := fun e => hb (e ▸ hC)
    unfold World.cell?
    dsimp only
    rw [ha.block b hne]
  · by_cases hne : b = C
    · subst hne
      obtain ⟨cs, h1, h2⟩ := hk
      obtain ⟨cs', h3, h4⟩ := ha.pay ⟨cs, h1, h2⟩
      rw [h1] at hb
      simp only [Option.some.injEq, Obj.cells.injEq] at hb
      obtain ⟨rfl, rfl, rfl⟩ := hb
      exact ⟨cs', h3, h4.trans h2.symm⟩
    · exact ⟨c, (ha.block b hne).trans hb, rfl⟩
end

/-! ### it leaves -/
theorem born0_quits : QuitsD Try.prog 1 0 (G born0 []) := by
  refine .inr ⟨rfl, { frame := born0, callers := [], status := .finished, dying := none }, #[], by simp, fun w => ?_, ⟨rfl, rfl⟩⟩
  simp [G, stepG, unwind, born0, Frame.catches, goexitEntry]
  rfl

theorem quits_worker (T : Array Value) : QuitsD Try.prog 2 0 (G { (baseD 53).at ⟨T, []⟩ [] with mode := .returning } [born0]) := by
  refine .inr ⟨rfl, G born0 [], #[], by simp, fun w => ?_, born0_quits⟩
  have hr := results_none (fn := Try.f53) (rfl : Try.f53.results = #[]) T Try.prog w
  have he := events_results_none (P := Try.prog) (w := w) (fn := Try.f53) (rfl : Try.f53.results = #[]) T
  simp [G, stepG, unwind, doReturn, Frame.at, baseD, Try.func53, hr, he, seen_none, GStep.after, born0, goexitEntry]

/-- What a worker may list behind its last packet. -/
structure FEv (Ev : Own → Event → Prop) (Wg : Nat) : Prop where
  dis : ∀ O, Ev O (mk .disable)
  own : ∀ O e, @EvW Wg (fun _ _ => False) (fun _ _ => False) 1 e → Ev O e

/-- What a worker leaves behind. -/
def Pay (s : WS) (all : List Nat) (T : Tn) (done : List (Nat × Pk × Int)) (O : Own) (w : World) : Prop :=
  ∃ S L, TenC w S s.g s.hp s.hi T L ∧ O = ⟨S, s.cells all, fun b => b = s.Wg⟩ ∧ ¬ S s.rs ∧ ¬ S s.Wg ∧ ResAt w s.rs done ∧ RowAt w s.rs s.N ∧ s.rs ≠ s.Wg ∧ s.rs < w.heap.size ∧ s.Wg < w.heap.size

theorem pay_steady (s : WS) (all : List Nat) (T : Tn) (done : List (Nat × Pk × Int)) (hd : ∀ x ∈ done, x.1 ∈ all) : Steady (Pay s all T done) s.Wg := by
  have key : ∀ S L w w₁, TenC w S s.g s.hp s.hi T L → ¬ S s.rs → ¬ S s.Wg → ResAt w s.rs done → RowAt w s.rs s.N → s.rs ≠ s.Wg → s.rs < w.heap.size → s.Wg < w.heap.size → Rely (s.own S all) w w₁ →
      Pay s all T done ⟨S, s.cells all, fun b => b = s.Wg⟩ w₁ := by
    intro S L w w₁ h1 h2 h3 h4 h5 h6 h7 h8 hr
    obtain ⟨-, ⟨S', L', e1, e2, e3, e4⟩, e5, e6, e7⟩ := (Held.of (g := default) h1 h2 h3 h4 h5 ⟨h7, h8⟩).relied hd hr default
    have hS : S' = S := (congrArg Own.B e2).symm
    subst hS
    exact ⟨_, L', e1, rfl, h2, h3, e5, e6, h6, e7.1, e7.2⟩
  refine ⟨?_, ?_⟩
  · rintro O w w₁ ⟨S, L, h1, rfl, h2, h3, h4, h5, h6, h7, h8⟩ hr
    exact key S L w w₁ h1 h2 h3 h4 h5 h6 h7 h8 (hr.less (fun _ x => x) (fun _ _ x => x) (fun _ x => x.elim))
  · rintro O w i v st sm hi ⟨S, L, h1, rfl, h2, h3, h4, h5, h6, h7, h8⟩ hw
    refine key S L w _ h1 h2 h3 h4 h5 h6 h7 h8 ?_
    refine (rely_set (s.own S all) w ⟨s.Wg, i, none⟩ v).less (fun b hb => ⟨hb, fun e => h3 (by have e' : b = s.Wg := e; rw [← e']; exact hb)⟩) (fun b o hb => ⟨hb, fun e => h6 ?_⟩) (fun _ x => x.elim)
    rw [← hb.1]; exact e

/-- All of the blocks but the tenant's first stand; that one's cells but the first, too. -/
theorem outer_back {w w₁ : World} {U : Own} {g : Nat} {cur : Array Value} {v : Value} (h0 : w₁.heap[g]? = some (.cells cur 104 (0, 0))) (hs : cur.size = 5) (hv : cur[0]? = some v) (hr : Rely ⟨fun b => U.B b ∧ b ≠ g, U.C, U.X⟩ w₁ w) (hp : @PayAt payl g 5 w) (hc : ∀ i, i ≠ 0 → w.cell? ⟨g, i, none⟩ = w₁.cell? ⟨g, i, none⟩) (hh : @Has g 0 v w) : Rely U w₁ w := by
  obtain ⟨cs, e1, e2⟩ := hp
  have e1' : w.heap[g]? = some (.cells cs 104 (0, 0)) := e1
  have hcs : cs = cur := by
    refine Array.ext (e2.trans hs.symm) fun i h1 h2 => ?_
    have a1 : w.cell? ⟨g, i, none⟩ = some cs[i] := by simp [World.cell?, e1', h1]
    have a2 : w₁.cell? ⟨g, i, none⟩ = some cur[i] := by simp [World.cell?, h0, h2]
    by_cases hi : i = 0
    · subst hi
      have : some cs[0] = some v := a1.symm.trans hh
      rw [Array.getElem?_eq_getElem h2] at hv
      exact Option.some.inj (this.trans hv.symm)
    · exact Option.some.inj (a1.symm.trans ((hc i hi).trans a2))
  refine ⟨hr.size, hr.tape, hr.os, hr.output, fun b hb => ?_, hr.cell, hr.shape, hr.live⟩
  by_cases hbg : b = g
  · subst hbg; rw [e1', h0, hcs]
  · exact hr.blk b ⟨hb, hbg⟩

set_option maxRecDepth 100000 in
set_option maxHeartbeats 4000000 in
/-- ITS CHANNEL IS CLOSED: it comes to the word that hands over. -/
theorem fin_run (s : WS) {Ev EvQ : Own → Event → Prop} (hE : FEv Ev s.Wg) (hEQ : ∀ O, EvQ O (mk .disable)) {all : List Nat} {T : Tn} {done : List (Nat × Pk × Int)} {j : Nat → Value} {w w₁ : World} {O : Own} (hh : Held s all T done ⟨O, 0, s.recv j, w⟩) (hd : ∀ x ∈ done, x.1 ∈ all) (hr : Rely O w w₁) (hl : Live s.Wg w₁) (hrw : s.rs ≠ s.Wg) :
    Run Try.prog false Ev (RelS Try.prog EvQ (Pay s all T done) s.Wg) ⟨⟨O.B, O.C, fun b => b = s.Wg⟩, 0, Conc.served (s.recv j) (recvd true plZ false), w₁⟩ := by
  obtain ⟨-, ⟨S, L, hT, hO, hrs, hwg⟩, hres, hrow, hlt⟩ := hh.relied hd hr (s.recv j)
  dsimp only at hT hO hres hrow hlt
  subst hO
  have hpayQ : Pay s all T done ⟨S, s.cells all, fun b => b = s.Wg⟩ w₁ := ⟨S, L, hT, rfl, hrs, hwg, hres, hrow, hrw, hlt.1, hlt.2⟩
  have hQ := pay_steady s all T done hd
  have hB : (⟨(s.own S all).B, (s.own S all).C, fun b => b = s.Wg⟩ : Own).B s.g := hT.ten.sg
  unfold WS.recv
  simp only [wLoop, loopOf, opsOf, restOf, Try.f53, Option.getD_some, WS.tmps, WS.sl, recvd, if_true]
  rw [served_G]
  generalize hU : (⟨(s.own S all).B, (s.own S all).C, fun b => b = s.Wg⟩ : Own) = U at hB ⊢
  replace hpayQ : Pay s all T done U w₁ := hU ▸ hpayQ
  have hX : U.X s.Wg := by rw [← hU]
  have hCne : ∀ o, ¬ U.C s.g o := fun o x => by rw [← hU] at x; exact hrs (x.1 ▸ hT.ten.sg)
  have hXne : ¬ U.X s.g := fun x => by rw [← hU] at x; exact hwg (x ▸ hT.ten.sg)
  have hblk1 := hT.ten.blk
  have hF : Rely U w₁ w₁ := Rely.refl _ _
  refine Run.of_goes (R := Rely U) (D := DC0) (S := fun g x => Run Try.prog false Ev (RelS Try.prog EvQ (Pay s all T done) s.Wg) ⟨U, 0, g, x⟩) (n := 30) (fun _ _ h => h) dc0_ok (fun _ _ h => h) ?_
  try walk_nrm
  u_op rl_trans hF
  u_c stepG_region_end rl_trans hF
  u_c stepG_seq rl_trans hF
  u_cnd false rl_trans hF
  u_exit rl_trans hF
  refine Goes.stop (fun w₂ h₂ => ?_)
  replace hF := rl_trans hF h₂
  clear h₂
  have hl1 : Live s.Wg w₂ := hF.live s.Wg hX hl
  have hb2 := (hF.blk s.g hB).trans hblk1
  have hq2 : Pay s all T done U w₂ := hQ.rely _ _ _ hpayQ hF
  have hpay1 : @PayAt payl s.g 5 w₂ := ⟨_, hb2, rfl⟩
  have hhas1 : @Has s.g 0 (.int .i64 T.outer) w₂ := by
    unfold Has
    simp [World.cell?, hb2]
  clear hF hpayQ hl
  refine Run.ctl rfl (fun _ => stepG_end) ?_
  refine Run.say (es := #[]) rfl (fun w₂ => stepG_unwind_enter (c := body_done link) rfl Try.func85 name85 rfl) (by simp) ?_
  refine Run.of_goesK (K := fun w => Rely ⟨fun b => U.B b ∧ b ≠ s.g, U.C, U.X⟩ w₂ w ∧ @PayAt payl s.g 5 w ∧ ∀ i, i ≠ 0 → w.cell? ⟨s.g, i, none⟩ = w₂.cell? ⟨s.g, i, none⟩) (R := @RW payl 125 s.Wg s.g 5 0 0) (D := @DWs payl s.Wg (fun _ _ => False) (fun _ _ => False) s.g 5 1) (S := @AtR0 payl Try.prog 125 s.Wg s.g 5 0 1 (.int .i64 T.outer)) (n := 23)
    (fun _ _ h => rw_of hB hX h) (fun w w₃ h hk => ?_) (fun w w' es hk hd => ?_) (fun g w hk h => r0_of (v := .int .i64 T.outer) hQ hB hX hEQ fun w₃ h₃ => ?_) ⟨Rely.refl _ _, hpay1, fun _ _ => rfl⟩ ?_
  · obtain ⟨h1, ⟨cs, h2, h2'⟩, h3⟩ := hk
    refine ⟨h1.trans (h.less (fun _ x => x.1) (fun _ _ x => x) (fun _ x => x)), ⟨cs, (h.blk s.g hB).trans h2, h2'⟩, fun i hi => ?_⟩
    rw [← h3 i hi]
    unfold World.cell?
    dsimp only
    rw [h.blk s.g hB]
  · letI : Payload := payl
    obtain ⟨h1, h2, h3⟩ := hk
    obtain ⟨d1, d2, d3, d4⟩ := dws_ok (d := 0) hB hE.own w w' es h2 hd
    refine ⟨d1, d2, d3, h1.trans ?_, d4, fun i hi => (hd.1.cells i hi).trans (h3 i hi)⟩
    exact ⟨d1.size, d1.tape, d1.os, d1.output, fun b hb => hd.1.block b hb.2, fun b o hb => by
      have : b ≠ s.g := fun e => hCne o (e ▸ hb)
      unfold World.cell?
      dsimp only
      rw [hd.1.block b this], d1.shape, fun b hb ⟨st, sm, y⟩ => ⟨st, sm, (hd.1.block b (fun e => hXne (e ▸ hb))).trans y⟩⟩
  · obtain ⟨⟨k1, k2, k3⟩, hs⟩ := h w₃ h₃
    exact ⟨hQ.rely _ _ _ hq2 (outer_back hb2 rfl rfl k1 k2 k3 hs.2.1), hs⟩
  · exact @doneN payl link Try.prog wgLib (fun _ _ => False) (fun _ _ => False) s.Wg s.g 5 0 1 (.int .i64 T.outer) _ [born0] 2 rfl (quits_worker _) w₂ ⟨hl1, hhas1⟩

end Go.Proofs.Ytgpplekabohneaa.Co

namespace Go.Proofs.Ytgpplekabohneaa.Co
open Go Go.Conc Go.RowKit Go.ConcR.Gen Go.ConcN.Gen
open Go.ConcR (DC0)

def firstLoop : Code → Option Code
  | .seq a b => match firstLoop a with
    | some c => some c
    | none => firstLoop b
  | .block _ c => firstLoop c
  | .loop c => some c
  | _ => none

/-- The body of the loop over the packets. -/
def mLoop (F : Func := Try.f32) : Code := (firstLoop (F.body.getD .skip)).getD .skip
/-- What stands behind it. -/
def behind : Code → Code
  | .seq _ b => match b with
    | .seq _ c => match c with
      | .seq _ d => match d with
        | .seq _ e => match e with
          | .seq _ f => f
          | x => x
        | x => x
      | x => x
    | x => x
  | x => x
def mRest (F : Func := Try.f32) : Code := behind (F.body.getD .skip)

/-- What the starter works on: the box, its map of tenants, the packets' row, the results, the queues, the group. -/
structure MS where
  b : Nat
  r : Nat
  pb : Nat
  off : Nat
  cap : Nat
  N : Nat
  rs : Nat
  q : Nat
  Wg : Nat
  /-- What else it owns, and the world in which it began. -/
  ot : Nat → Prop
  w0 : World
  /-- Where the packets' list points. -/
  pa : Option Addr

def MS.ps (m : MS) : Value := .slice m.pa m.N m.cap
def MS.sl (m : MS) : Value := .slice (some ⟨m.rs, 0, none⟩) m.N m.N
def MS.tmps (m : MS) (i : Nat) (j : Nat → Value) : Array Value := #[.pointer (some ⟨m.b, 0, none⟩), m.ps, j 2, j 3, .slice none 0 0, m.sl, .map (some m.q), .pointer (some ⟨m.Wg, 0, none⟩), j 8, j 9, j 10, j 11, j 12, j 13, j 14, j 15, j 16, j 17, j 18, m.ps, .int .i64 m.N, .int .i64 i, j 22, j 23, j 24, j 25, j 26, j 27, j 28, j 29, j 30, j 31, j 32, j 33, j 34, j 35, j 36, j 37, j 38, j 39, j 40, j 41, j 42, j 43, j 44, j 45, j 46, j 47, j 48, j 49, j 50, j 51, j 52, j 53, j 54, j 55, j 56, j 57, j 58, j 59, j 60, j 61, j 62, j 63, j 64, j 65, j 66, j 67, j 68, j 69, j 70, j 71, j 72, j 73]
/-- At the head of the loop, 'i' packets having been dealt with. -/
def MS.head (m : MS) (cs : List Frame) (i : Nat) (j : Nat → Value) (F : Func := Try.f32) : Goroutine := G ((base 32).at ⟨m.tmps i j, []⟩ [.code (mLoop F), .inLoop (mLoop F), .inBlock 0, .code (mRest F)]) cs

def code7 : Code → Code
  | .seq _ (.seq _ (.seq (.block _ (.seq _ y)) _)) => y
  | x => x
def code17 : Code → Code
  | .seq _ (.seq _ (.seq _ z)) => z
  | x => x
/-- Behind the loading of the packet. -/
def MS.at7 (m : MS) (cs : List Frame) (i : Nat) (j : Nat → Value) (F : Func := Try.f32) : Goroutine := G ((base 32).at ⟨m.tmps i j, []⟩ [.code (code7 (mLoop F)), .inBlock 1, .code (code17 (mLoop F)), .inLoop (mLoop F), .inBlock 0, .code (mRest F)]) cs

/-- What is owned is there. -/
structure Lies (O : Own) (w : World) : Prop where
  B : ∀ b, O.B b → b < w.heap.size
  C : ∀ b o, O.C b o → b < w.heap.size
  X : ∀ b, O.X b → b < w.heap.size

theorem Lies.wide {O : Own} {w w₁ : World} (h : Lies O w) (hs : w.heap.size ≤ w₁.heap.size) : Lies O w₁ := ⟨fun b x => Nat.lt_of_lt_of_le (h.B b x) hs, fun b o x => Nat.lt_of_lt_of_le (h.C b o x) hs, fun b x => Nat.lt_of_lt_of_le (h.X b x) hs⟩

set_option maxRecDepth 100000 in
set_option maxHeartbeats 4000000 in
theorem head_some (m : MS) (cs : List Frame) (i : Nat) (j : Nat → Value) {Ev : Own → Event → Prop} {Z : Nat → Prop} (hE : LetsOwn Ev Z) {Stop : Pos → Prop} {O : Own} {w : World} (hO : Lies O w) (hi : i < m.N) (hpa : m.pa = some ⟨m.pb, m.off, none⟩) (hpb : O.B m.pb) (hZ : ¬ Z m.pb) (hZn : ∀ b, Z b → b < w.heap.size) {cur : Array Value} {e : TypeId} (hcur : w.heap[m.pb]? = some (.cells cur e (0, 0))) (hle : m.off + 15 * m.N ≤ cur.size)
    (p : Pk) (hp : ((cur.toList.drop (m.off + i * 15)).take 15).toArray = pkC p)
    (hk : ∀ n9 W' j', j' 8 = .int .i64 i → j' 9 = .pointer (some ⟨n9, 0, none⟩) → W'.heap[n9]? = some (.cells (pkC p) 38 (0, 0)) → w.heap.size ≤ n9 → Rely O w W' → Run Try.prog true Ev Stop ⟨O.new n9, 0, m.at7 cs i j', W'⟩) :
    Run Try.prog true Ev Stop ⟨O, 0, m.head cs i j, w⟩ := by
  unfold MS.head
  unfold MS.at7 at hk
  simp only [mLoop, firstLoop, mRest, behind, code7, code17, Try.f32, Option.getD_some, MS.tmps, MS.ps, MS.sl, hpa] at hk ⊢
  have hF : Rely O w w := Rely.refl _ _
  refine Run.of_goes (R := Rely O) (D := DC0) (S := fun g x => Run Try.prog true Ev Stop ⟨O, 0, g, x⟩) (n := 40) (fun _ _ h => h) dc0_ok (fun _ _ h => h) ?_
  u_c stepG_seq rl_trans hF
  u_reg rl_trans hF
  u_op rl_trans hF
  u_c stepG_region_end rl_trans hF
  u_c stepG_seq rl_trans hF
  u_cnd true rl_trans hF
  u_c stepG_skip rl_trans hF
  u_c stepG_seq rl_trans hF
  u_c stepG_block rl_trans hF
  u_c stepG_seq rl_trans hF
  u_reg rl_trans hF
  u_op rl_trans hF
  u_op rl_trans hF
  refine Goes.stop (fun w₁ h₁ => ?_)
  replace hF := rl_trans hF h₁
  clear h₁

  have hc1 := (hF.blk m.pb hpb).trans hcur
  refine Run.loadB (e := e) (cur := cur) (n := 15) (off := m.off + i * 15) hE rfl rfl (by k_ne) rfl rfl Try.isAgg38 (ev_agg 38) Try.sizeOf38 (ev_size 38) hpb hZ hc1 (by omega) ?_
  rw [hp]
  try walk_nrm
  refine Run.allocB (t := 38) (z := pk0V.cells) rfl rfl (by k_ne) (fun w₂ => by simp [go_sem, pk0V, Value.cells]) (fun w₂ => by simp [go_sem]) (fun w₂ h₂ => ?_)
  try walk_nrm
  have hR2 := hF.trans h₂
  obtain ⟨n9, hn9⟩ : ∃ n9, n9 = w₂.heap.size := ⟨_, rfl⟩
  have hs9 : w.heap.size ≤ n9 := by rw [hn9]; exact hR2.size
  have hblk : (w₂.alloc (.cells pk0V.cells 38)).heap[n9]? = some (.cells pk0V.cells 38 (0, 0)) := by rw [hn9]; exact heap_alloc_new w₂ _
  have hO2 := hO.wide hR2.size
  have hR3 : Rely O w (w₂.alloc (.cells pk0V.cells 38)) := hR2.trans (rely_alloc w₂ _ hO2.B hO2.C hO2.X)
  rw [← hn9]
  generalize hw3 : w₂.alloc (.cells pk0V.cells 38) = w₃ at hblk hR3
  clear hF h₂ hn9 hR2 hw3 hO2 hc1
  have hF : Rely (O.new n9) w₃ w₃ := Rely.refl _ _
  refine Run.of_goes (R := Rely (O.new n9)) (D := DC0) (S := fun g x => Run Try.prog true Ev Stop ⟨(O.new n9), 0, g, x⟩) (n := 10) (fun _ _ h => h) dc0_ok (fun _ _ h => h) ?_
  try walk_nrm
  u_op rl_trans hF
  refine Goes.stop (fun w₁ h₁ => ?_)
  replace hF := rl_trans hF h₁
  clear h₁

  have hb4 := (hF.blk n9 (.inr rfl)).trans hblk
  refine Run.storeB (e := 38) (cur := pk0V.cells) (vs := pkC p) (off := 0) hE rfl rfl (by k_ne) rfl rfl rfl Try.sizeOf38 (ev_size 38) (one_pk p) (.inr rfl) (fun x => by have := hZn n9 x; omega) hb4 (by simp [pk0V, Value.cells, pkC]) (fun w₄ h₄ => ?_)
  have hb5 := (h₄.blk n9 (.inr rfl)).trans hb4
  have hn5 := setRow_heap w₄ n9 _ (List.take 0 pk0V.cells.toList ++ (pkC p).toList ++ List.drop (0 + (pkC p).size) pk0V.cells.toList).toArray 38 (0, 0) hb5
  rw [show (List.take 0 pk0V.cells.toList ++ (pkC p).toList ++ List.drop (0 + (pkC p).size) pk0V.cells.toList).toArray = pkC p from rfl] at hn5 ⊢
  have hn9B : ¬ O.B n9 := fun x => by have := hO.B n9 x; omega
  have hR6 : Rely O w (w₄.setRow n9 (pkC p)) := ((hR3.trans (hF.less (fun _ x => .inl x) (fun _ _ x => x) (fun _ x => x))).trans (h₄.less (fun _ x => .inl x) (fun _ _ x => x) (fun _ x => x))).trans (rely_setRow w₄ n9 _ hb5 (by simp [pk0V, Value.cells, pkC]) hn9B (fun o x => by have := hO.C n9 o x; omega) (fun x => by have := hO.X n9 x; omega))
  refine Run.ctl rfl (fun _ => stepG_region_end) ?_
  have hk2 := fun (x2 x3 x8 x9 x10 x11 x12 x13 x14 x15 x16 x17 x18 x22 x23 x24 x25 x26 x27 x28 x29 x30 x31 x32 x33 x34 x35 x36 x37 x38 x39 x40 x41 x42 x43 x44 x45 x46 x47 x48 x49 x50 x51 x52 x53 x54 x55 x56 x57 x58 x59 x60 x61 x62 x63 x64 x65 x66 x67 x68 x69 x70 x71 x72 x73 : Value) (h8 : x8 = .int .i64 i) (h9 : x9 = .pointer (some ⟨n9, 0, none⟩)) => hk n9 _ (fun n => match n with | 2 => x2 | 3 => x3 | 8 => x8 | 9 => x9 | 10 => x10 | 11 => x11 | 12 => x12 | 13 => x13 | 14 => x14 | 15 => x15 | 16 => x16 | 17 => x17 | 18 => x18 | 22 => x22 | 23 => x23 | 24 => x24 | 25 => x25 | 26 => x26 | 27 => x27 | 28 => x28 | 29 => x29 | 30 => x30 | 31 => x31 | 32 => x32 | 33 => x33 | 34 => x34 | 35 => x35 | 36 => x36 | 37 => x37 | 38 => x38 | 39 => x39 | 40 => x40 | 41 => x41 | 42 => x42 | 43 => x43 | 44 => x44 | 45 => x45 | 46 => x46 | 47 => x47 | 48 => x48 | 49 => x49 | 50 => x50 | 51 => x51 | 52 => x52 | 53 => x53 | 54 => x54 | 55 => x55 | 56 => x56 | 57 => x57 | 58 => x58 | 59 => x59 | 60 => x60 | 61 => x61 | 62 => x62 | 63 => x63 | 64 => x64 | 65 => x65 | 66 => x66 | 67 => x67 | 68 => x68 | 69 => x69 | 70 => x70 | 71 => x71 | 72 => x72 | 73 => x73 | _ => undef) h8 h9 hn5 hs9 hR6
  exact hk2 _ _ _ _ _ _ _ _ _ _ _ _ _ _ _ _ _ _ _ _ _ _ _ _ _ _ _ _ _ _ _ _ _ _ _ _ _ _ _ _ _ _ _ _ _ _ _ _ _ _ _ _ _ _ _ _ _ _ _ _ _ _ _ _ _ rfl rfl

end Go.Proofs.Ytgpplekabohneaa.Co

namespace Go.Proofs.Ytgpplekabohneaa.Co
open Go Go.Conc Go.RowKit Go.ConcR.Gen Go.ConcN.Gen

/-- Steps that turn nothing but the count of draws. -/
def DRd (O : Own) (Ev : Own → Event → Prop) (w w' : World) (es : Array Event) : Prop := (∃ n, w' = w.at n) ∧ ∀ e ∈ es, Ev O e ∧ Plainly e

section
variable {O : Own} {Ev : Own → Event → Prop}
theorem dr_terms : Terms (Rely O) (DRd O Ev) := ⟨fun _ _ _ h k => h.trans k, fun w => ⟨⟨w.drawn, rfl⟩, by simp⟩⟩
theorem dr_draw : LetsDraw (DRd O Ev) := fun w => ⟨⟨w.drawn + 1, rfl⟩, by simp⟩
theorem dr_none {w : World} {es : Array Event} (h : es = #[]) : DRd O Ev w w es := ⟨⟨w.drawn, rfl⟩, by simp [h]⟩
theorem dr_ok {d : Nat} (w w' : World) (es : Array Event) (h : DRd O Ev w w' es) : Guar O O w w' ∧ (∀ e ∈ es, Ev O e) ∧ deafBehind d es = d := by
  obtain ⟨⟨n, rfl⟩, h2⟩ := h
  exact ⟨Guar.at O w n, fun e he => (h2 e he).1, deafBehind_still (fun e he => (h2 e he).2) d⟩

theorem Run.of_wpC {P : Program} {main : Bool} {Stop : Pos → Prop} {d : Nat} {c : Code} {fn : FuncId} {n : Nat} {Q : Exit → Act → World → Prop} {a : Act} {w : World} {b : Frame} {k : List Item} {cs : List Frame} (h : c.wpC P main (Rely O) (DRd O Ev) fn n Q a w) (hb : b.fn = fn) (hk : b.kind ≠ .early)
    (hQ : ∀ e a' w', Q e a' w' → e = .normal ∧ Run P main Ev Stop ⟨O, d, G (b.at a' k) cs, w'⟩) : Run P main Ev Stop ⟨O, d, G (b.at a (.code c :: k)) cs, w⟩ :=
  Run.of_goes (R := Rely O) (D := DRd O Ev) (S := fun g x => Run P main Ev Stop ⟨O, d, g, x⟩) (fun _ _ h => h) dr_ok (fun _ _ h => h) (wpC_goes (m := 0) h hb hk fun e a' w' q => by
    obtain ⟨rfl, hr⟩ := hQ e a' w' q
    exact fun w₁ h₁ => hr.rely h₁)
end

/-- What the region looks at. -/
def S7 (O : Own) (w0 : World) (m : MS) (n9 : Nat) (p : Pk) (es : Array MapEntry) (c : Nat) (x : World) : Prop := x.heap[m.b]? = some (.cells #[.map (some m.r)] 82 (0, 0)) ∧ x.heap[n9]? = some (.cells (pkC p) 38 (0, 0)) ∧ x.heap[m.r]? = some (.map es c) ∧ Rely O w0 x

theorem cell_at {w : World} {b : Nat} {c : Array Value} {e : TypeId} {f : Nat × Nat} (h : w.heap[b]? = some (.cells c e f)) (o : Nat) : w.cell? ⟨b, o, none⟩ = c[o]? := by simp [World.cell?, h]

theorem ev_getObj_map {P : Program} {w : World} {r : Nat} {es : Array MapEntry} {c : Nat} {evs : Array Event} (h : w.heap[r]? = some (.map es c)) : (getObj r).events P w evs = evs.push ⟨.obj r, false, false⟩ := by
  show ((Sem.getObj r pure).runT P w evs).2 = _
  simp only [Sem.runT, h]
  rfl
theorem ev_under (t : TypeId) (w : World) (evs : Array Event) : (underlying t).events Try.prog w evs = evs := by simp [go_sem]
theorem ev_checkKey (b : Bool) (k : Int) (w : World) (evs : Array Event) : (Instr.checkKey b 10000 3 (.int .i64 k)).events Try.prog w evs = evs := by
  rw [show (10000 : Nat) = 9999 + 1 from rfl]
  unfold Instr.checkKey
  simp only [Sem.events_bind, run_underlying Try.underlying3, ev_under, Result.evThen_ok]
  rfl
theorem ev_findKey {k : Int} {l : List MapEntry} {o : Option (Nat × Value)} (h1 : Instr.findNow (.int .i64) (.int .i64 k) l 0 = some o) (w : World) (evs : Array Event) : (Instr.findKey 3 (.int .i64 k) l).events Try.prog w evs = evs := by
  unfold Instr.findKey
  simp only [Sem.events_bind, run_underlying Try.underlying3, ev_under, Result.evThen_ok, h1]
  rfl

theorem ev_look {w : World} {r : Nat} {es : Array MapEntry} {c : Nat} {k : Int} (h : w.heap[r]? = some (.map es c)) (hk : ∀ e ∈ es.toList, ∃ n : Int, e.key = .int .i64 n) : (Instr.lookup 80 (.map (some r)) (.int .i64 k) true).events Try.prog w #[] = #[⟨.obj r, false, false⟩] := by
  have hd : MapKept.IsKey (.int .i64) (.int .i64 k) := rfl
  rcases MapKept.findNow_spec hd es.toList 0 (fun x hx => by obtain ⟨b, hb⟩ := hk x hx; rw [hb]; rfl) with ⟨h1, _⟩ | ⟨j, e, h1, h2, h3⟩
  · unfold Instr.lookup
    simp [run_underlying Try.underlying80, MapKept.run_getObj_map h, ev_getObj_map h, MapKept.run_checkKey Try.underlying3 hd, MapKept.run_findKey Try.underlying3 h1, ev_checkKey, ev_findKey h1]
  · unfold Instr.lookup
    simp [run_underlying Try.underlying80, MapKept.run_getObj_map h, ev_getObj_map h, MapKept.run_checkKey Try.underlying3 hd, MapKept.run_findKey Try.underlying3 h1, ev_checkKey, ev_findKey h1]
theorem tmps_act (m : MS) (i : Nat) (x2 x3 x8 x9 x10 x11 x12 x13 x14 x15 x16 x17 x18 x22 x23 x24 x25 x26 x27 x28 x29 x30 x31 x32 x33 x34 x35 x36 x37 x38 x39 x40 x41 x42 x43 x44 x45 x46 x47 x48 x49 x50 x51 x52 x53 x54 x55 x56 x57 x58 x59 x60 x61 x62 x63 x64 x65 x66 x67 x68 x69 x70 x71 x72 x73 : Value) : ∃ j' : Nat → Value, (⟨#[.pointer (some ⟨m.b, 0, none⟩), m.ps, x2, x3, .slice none 0 0, m.sl, .map (some m.q), .pointer (some ⟨m.Wg, 0, none⟩), x8, x9, x10, x11, x12, x13, x14, x15, x16, x17, x18, m.ps, .int .i64 m.N, .int .i64 i, x22, x23, x24, x25, x26, x27, x28, x29, x30, x31, x32, x33, x34, x35, x36, x37, x38, x39, x40, x41, x42, x43, x44, x45, x46, x47, x48, x49, x50, x51, x52, x53, x54, x55, x56, x57, x58, x59, x60, x61, x62, x63, x64, x65, x66, x67, x68, x69, x70, x71, x72, x73], []⟩ : Act) = ⟨m.tmps i j', []⟩ ∧ j' 8 = x8 ∧ j' 9 = x9 ∧ j' 10 = x10 ∧ j' 11 = x11 ∧ j' 12 = x12 :=
  ⟨fun n => match n with | 2 => x2 | 3 => x3 | 8 => x8 | 9 => x9 | 10 => x10 | 11 => x11 | 12 => x12 | 13 => x13 | 14 => x14 | 15 => x15 | 16 => x16 | 17 => x17 | 18 => x18 | 22 => x22 | 23 => x23 | 24 => x24 | 25 => x25 | 26 => x26 | 27 => x27 | 28 => x28 | 29 => x29 | 30 => x30 | 31 => x31 | 32 => x32 | 33 => x33 | 34 => x34 | 35 => x35 | 36 => x36 | 37 => x37 | 38 => x38 | 39 => x39 | 40 => x40 | 41 => x41 | 42 => x42 | 43 => x43 | 44 => x44 | 45 => x45 | 46 => x46 | 47 => x47 | 48 => x48 | 49 => x49 | 50 => x50 | 51 => x51 | 52 => x52 | 53 => x53 | 54 => x54 | 55 => x55 | 56 => x56 | 57 => x57 | 58 => x58 | 59 => x59 | 60 => x60 | 61 => x61 | 62 => x62 | 63 => x63 | 64 => x64 | 65 => x65 | 66 => x66 | 67 => x67 | 68 => x68 | 69 => x69 | 70 => x70 | 71 => x71 | 72 => x72 | 73 => x73 | _ => undef, rfl, rfl, rfl, rfl, rfl, rfl⟩

/-- Behind the look-up of the tenant. -/
def MS.at8 (m : MS) (cs : List Frame) (i : Nat) (j : Nat → Value) (F : Func := Try.f32) : Goroutine := G ((base 32).at ⟨m.tmps i j, []⟩ [.code (restOf (code7 (mLoop F))), .inBlock 1, .code (code17 (mLoop F)), .inLoop (mLoop F), .inBlock 0, .code (mRest F)]) cs

theorem name7 : Try.prog.follows .mixedOrders = true := by kernel_rfl

set_option maxRecDepth 100000 in
set_option maxHeartbeats 4000000 in
theorem at7_run (m : MS) (cs : List Frame) (i : Nat) (j : Nat → Value) {Ev : Own → Event → Prop} {Z : Nat → Prop} (hE : LetsOwn Ev Z) (hEo : ∀ O b, O.B b → ¬ Z b → Ev O ⟨.obj b, false, false⟩) {Stop : Pos → Prop} {O : Own} {w : World} {n9 : Nat} {p : Pk} (h8 : j 8 = .int .i64 i) (h9 : j 9 = .pointer (some ⟨n9, 0, none⟩))
    (hb : O.B m.b ∧ ¬ Z m.b) (hr : O.B m.r ∧ ¬ Z m.r) (hn : O.B n9 ∧ ¬ Z n9) (hS : w.heap[m.b]? = some (.cells #[.map (some m.r)] 82 (0, 0)) ∧ w.heap[n9]? = some (.cells (pkC p) 38 (0, 0))) {es : Array MapEntry} {c : Nat} (hm : w.heap[m.r]? = some (.map es c)) {v : Value} {ok : Bool}
    (hl : ∀ w₁ : World, w₁.heap[m.r]? = some (.map es c) → (Instr.lookup 80 (.map (some m.r)) (.int .i64 p.tag) true).run Try.prog w₁ = .ok (.tuple #[v, .bool ok]) w₁)
    (hkey : ∀ e ∈ es.toList, ∃ n : Int, e.key = .int .i64 n)
    (hk : ∀ W' j', j' 8 = .int .i64 i → j' 9 = .pointer (some ⟨n9, 0, none⟩) → j' 10 = v → j' 11 = .bool ok → S7 O w m n9 p es c W' → Run Try.prog true Ev Stop ⟨O, 0, m.at8 cs i j', W'⟩) : Run Try.prog true Ev Stop ⟨O, 0, m.at7 cs i j, w⟩ := by
  unfold MS.at7
  simp only [mLoop, firstLoop, mRest, behind, code7, code17, Try.f32, Option.getD_some, MS.tmps, MS.ps, MS.sl, h8, h9]
  refine Run.ctl rfl (fun _ => stepG_seq) ?_
  have hF : S7 O w m n9 p es c w := ⟨hS.1, hS.2, hm, Rely.refl O w⟩
  have hSR : ∀ x y : World, S7 O w m n9 p es c x → Rely O x y → S7 O w m n9 p es c y :=
    fun x y h r => ⟨(r.blk _ hb.1).trans h.1, (r.blk _ hn.1).trans h.2.1, (r.blk _ hr.1).trans h.2.2.1, h.2.2.2.trans r⟩
  have T : Terms (Rely O) (DRd O Ev) := dr_terms
  refine Run.of_wpC (fn := 32) (n := 14) (Q := fun e a' w' => e = .normal ∧ (∃ j' : Nat → Value, a' = ⟨m.tmps i j', []⟩ ∧ j' 8 = .int .i64 i ∧ j' 9 = .pointer (some ⟨n9, 0, none⟩) ∧ j' 10 = v ∧ j' 11 = .bool ok ∧ j' 12 = j 12) ∧ S7 O w m n9 p es c w') ?_ rfl (by k_ne) ?_
  · refine wpC_region_held (S := S7 O w m n9 p es c) T dr_draw name7 ?_
    intro w₁ h₁
    replace hF : S7 O w m n9 p es c { w₁ with drawn := w₁.drawn + 1 } := hSR _ _ hF (h₁.at _)
    simp only [List.size_toArray, List.length_cons, List.length_nil, Nat.reduceAdd, Nat.zero_add]
    co_applyP anyCH_take T (fun _ _ h r => hSR _ _ h r) (fun _ _ _ h r => ⟨h.1, h.2.1, hSR _ _ h.2.2 r⟩) (i := 0) rfl (by first | kernel_rfl | decide +kernel) (by first | kernel_rfl | decide +kernel) (by first | kernel_rfl | decide +kernel) (.inl ⟨by rfl, fun _ hw => ⟨run_eq_of ?run0, ?guar0⟩⟩) hF ?rest0
    case run0 =>
      intro K hK
      go_simp
      exact hK
    case guar0 =>
      exact dr_none (listed_nil (by simp [go_sem]))
    try walk_nrm
    co_applyP anyCH_take T (fun _ _ h r => hSR _ _ h r) (fun _ _ _ h r => ⟨h.1, h.2.1, hSR _ _ h.2.2 r⟩) (i := 1) rfl (by first | kernel_rfl | decide +kernel) (by first | kernel_rfl | decide +kernel) (by first | kernel_rfl | decide +kernel) (.inl ⟨by rfl, fun _ hw => ⟨run_eq_of ?run1, ?guar1⟩⟩) hF ?rest1
    case run1 =>
      intro K hK
      go_simp
      exact hK
    case guar1 =>
      exact dr_none (listed_nil (by simp [go_sem]))
    try walk_nrm
    co_applyP anyCH_take T (fun _ _ h r => hSR _ _ h r) (fun _ _ _ h r => ⟨h.1, h.2.1, hSR _ _ h.2.2 r⟩) (i := 2) rfl (by first | kernel_rfl | decide +kernel) (by first | kernel_rfl | decide +kernel) (by first | kernel_rfl | decide +kernel) (.inl ⟨by rfl, fun _ hw => ⟨run_eq_of ?run2, ?guar2⟩⟩) hF ?rest2
    case run2 =>
      intro K hK
      go_simp
      exact hK
    case guar2 =>
      exact dr_none (listed_nil (by simp [go_sem]))
    try walk_nrm
    co_applyP anyCH_take T (fun _ _ h r => hSR _ _ h r) (fun _ _ _ h r => ⟨h.1, h.2.1, hSR _ _ h.2.2 r⟩) (i := 3) rfl (by first | kernel_rfl | decide +kernel) (by first | kernel_rfl | decide +kernel) (by first | kernel_rfl | decide +kernel) (.inl ⟨by rfl, fun _ hw => ⟨run_eq_of ?run3, ?guar3⟩⟩) hF ?rest3
    case run3 =>
      intro K hK
      have hc := cell_at hw.1 0
      go_simp
      exact hK
    case guar3 =>
      refine ⟨⟨_, rfl⟩, fun e he => ?_⟩
      have hc := cell_at hw.1 0
      have hm := mem_listed he
      simp [go_sem, hc] at hm
      subst hm
      exact ⟨hE O _ false (.inl hb.1) hb.2, by simp [Plainly]⟩
    try walk_nrm
    co_applyP anyCH_take T (fun _ _ h r => hSR _ _ h r) (fun _ _ _ h r => ⟨h.1, h.2.1, hSR _ _ h.2.2 r⟩) (i := 4) rfl (by first | kernel_rfl | decide +kernel) (by first | kernel_rfl | decide +kernel) (by first | kernel_rfl | decide +kernel) (.inl ⟨by rfl, fun _ hw => ⟨run_eq_of ?run4, ?guar4⟩⟩) hF ?rest4
    case run4 =>
      intro K hK
      go_simp
      exact hK
    case guar4 =>
      exact dr_none (listed_nil (by simp [go_sem]))
    try walk_nrm
    co_applyP anyCH_take T (fun _ _ h r => hSR _ _ h r) (fun _ _ _ h r => ⟨h.1, h.2.1, hSR _ _ h.2.2 r⟩) (i := 5) rfl (by first | kernel_rfl | decide +kernel) (by first | kernel_rfl | decide +kernel) (by first | kernel_rfl | decide +kernel) (.inl ⟨by rfl, fun _ hw => ⟨run_eq_of ?run5, ?guar5⟩⟩) hF ?rest5
    case run5 =>
      intro K hK
      have hc := cell_at hw.2.1 0
      simp only [pkC] at hc
      go_simp
      exact hK
    case guar5 =>
      refine ⟨⟨_, rfl⟩, fun e he => ?_⟩
      have hc := cell_at hw.2.1 0
      simp only [pkC] at hc
      have hm := mem_listed he
      simp [go_sem, hc] at hm
      subst hm
      exact ⟨hE O _ false (.inl hn.1) hn.2, by simp [Plainly]⟩
    try walk_nrm
    co_applyP anyCH_take T (fun _ _ h r => hSR _ _ h r) (fun _ _ _ h r => ⟨h.1, h.2.1, hSR _ _ h.2.2 r⟩) (i := 6) rfl (by first | kernel_rfl | decide +kernel) (by first | kernel_rfl | decide +kernel) (by first | kernel_rfl | decide +kernel) (.inl ⟨by rfl, fun _ hw => ⟨run_eq_of ?run6, ?guar6⟩⟩) hF ?rest6
    case run6 =>
      intro K hK
      have hc := hl _ hw.2.2.1
      simp only [execOp, Act.eval, List.getElem?_toArray, Array.getD_eq_getD_getElem?]
      simp [hc]
      exact hK
    case guar6 =>
      refine ⟨⟨_, rfl⟩, fun e he => ?_⟩
      have hc := ev_look (k := p.tag) hw.2.2.1 hkey
      have hm := mem_listed he
      simp only [execOp, Act.eval, List.getElem?_toArray, Array.getD_eq_getD_getElem?] at hm
      simp [hc] at hm
      subst hm
      exact ⟨hEo O _ hr.1 hr.2, by simp [Plainly]⟩
    try walk_nrm
    co_applyP anyCH_take T (fun _ _ h r => hSR _ _ h r) (fun _ _ _ h r => ⟨h.1, h.2.1, hSR _ _ h.2.2 r⟩) (i := 7) rfl (by first | kernel_rfl | decide +kernel) (by first | kernel_rfl | decide +kernel) (by first | kernel_rfl | decide +kernel) (.inl ⟨by rfl, fun _ hw => ⟨run_eq_of ?run7, ?guar7⟩⟩) hF ?rest7
    case run7 =>
      intro K hK
      go_simp
      exact hK
    case guar7 =>
      exact dr_none (listed_nil (by simp [go_sem]))
    try walk_nrm
    co_applyP anyCH_take T (fun _ _ h r => hSR _ _ h r) (fun _ _ _ h r => ⟨h.1, h.2.1, hSR _ _ h.2.2 r⟩) (i := 8) rfl (by first | kernel_rfl | decide +kernel) (by first | kernel_rfl | decide +kernel) (by first | kernel_rfl | decide +kernel) (.inl ⟨by rfl, fun _ hw => ⟨run_eq_of ?run8, ?guar8⟩⟩) hF ?rest8
    case run8 =>
      intro K hK
      go_simp
      exact hK
    case guar8 =>
      exact dr_none (listed_nil (by simp [go_sem]))
    try walk_nrm
    co_applyP anyCH_take T (fun _ _ h r => hSR _ _ h r) (fun _ _ _ h r => ⟨h.1, h.2.1, hSR _ _ h.2.2 r⟩) (i := 9) rfl (by first | kernel_rfl | decide +kernel) (by first | kernel_rfl | decide +kernel) (by first | kernel_rfl | decide +kernel) (.inl ⟨by rfl, fun _ hw => ⟨run_eq_of ?run9, ?guar9⟩⟩) hF ?rest9
    case run9 =>
      intro K hK
      go_simp
      exact hK
    case guar9 =>
      exact dr_none (listed_nil (by simp [go_sem]))
    try walk_nrm
    co_applyP anyCH_take T (fun _ _ h r => hSR _ _ h r) (fun _ _ _ h r => ⟨h.1, h.2.1, hSR _ _ h.2.2 r⟩) (i := 10) rfl (by first | kernel_rfl | decide +kernel) (by first | kernel_rfl | decide +kernel) (by first | kernel_rfl | decide +kernel) (.inl ⟨by rfl, fun _ hw => ⟨run_eq_of ?run10, ?guar10⟩⟩) hF ?rest10
    case run10 =>
      intro K hK
      go_simp
      exact hK
    case guar10 =>
      exact dr_none (listed_nil (by simp [go_sem]))
    try walk_nrm
    co_applyP anyCH_take T (fun _ _ h r => hSR _ _ h r) (fun _ _ _ h r => ⟨h.1, h.2.1, hSR _ _ h.2.2 r⟩) (i := 11) rfl (by first | kernel_rfl | decide +kernel) (by first | kernel_rfl | decide +kernel) (by first | kernel_rfl | decide +kernel) (.inl ⟨by rfl, fun _ hw => ⟨run_eq_of ?run11, ?guar11⟩⟩) hF ?rest11
    case run11 =>
      intro K hK
      go_simp
      exact hK
    case guar11 =>
      exact dr_none (listed_nil (by simp [go_sem]))
    try walk_nrm
    refine anyCH_done (by first | kernel_rfl | decide +kernel) ?_ _
    exact ⟨rfl, tmps_act m i _ _ _ _ _ _ _ _ _ _ _ _ _ _ _ _ _ _ _ _ _ _ _ _ _ _ _ _ _ _ _ _ _ _ _ _ _ _ _ _ _ _ _ _ _ _ _ _ _ _ _ _ _ _ _ _ _ _ _ _ _ _ _ _ _, hF⟩
  · rintro e a' w' ⟨rfl, ⟨j', rfl, e8, e9, e10, e11, e12⟩, hs'⟩
    refine ⟨rfl, ?_⟩
    have := hk w' j' e8 e9 e10 e11 hs'
    unfold MS.at8 at this
    simp only [mLoop, firstLoop, mRest, behind, code7, code17, restOf, Try.f32, Option.getD_some] at this
    exact this

end Go.Proofs.Ytgpplekabohneaa.Co
