/- The group's Wait, in whatever company. · The group's Wait from its entry. · A worker: it receives, passes, lays down what comes of it, and receives again. -/
import Derived.Test.YtgpplekabohneaaYam
import Derived.Conc.CrowdComm
namespace Go.Proofs.Ytgpplekabohneaa.Co
open Go Go.Conc Go.ConcN Go.RowKit Go.Conc.Lib Go.ConcR.Gen Go.ConcN.Gen
open Go.ConcR (KK wgBlock WgAt stA smA rd wr mk DC0)

section
variable (P : Program) (Ev : Own → Event → Prop) (ty : TypeId) (Wg : Nat) (Next : Pos → Prop)

/-- At the word that takes over what the others have done. -/
def AcqStop (x : Pos) : Prop := x.d = 0 ∧ x.g.status = .running ∧ ∃ g', (∀ w₁, stepG P true x.g w₁ = .go g' w₁ #[mk (.acquire (stA Wg))]) ∧ Run P true Ev Next ⟨x.O, 0, g', x.w⟩
/-- At the load behind the semaphore. -/
def W4Stop (x : Pos) : Prop := x.d = 1 ∧ x.g.status = .running ∧ ∃ g', (∀ w₁, WgAt ty Wg w₁ 0 0 → stepG P true x.g w₁ = .go g' w₁ #[rd (stA Wg)]) ∧ Run P true Ev (AcqStop P Ev Wg Next) ⟨x.O, 1, g', x.w⟩
/-- At the semaphore. -/
def W3Stop (x : Pos) : Prop := x.d = 1 ∧ x.g.status = .running ∧ x.g.offers = none ∧ (∀ w₁ st, WgAt ty Wg w₁ st 0 → stepG P true x.g w₁ = .go { x.g with status := .blocked } w₁ #[]) ∧
  ∃ g', (∀ w₁, WgAt ty Wg w₁ 0 1 → stepG P true x.g w₁ = .go g' (w₁.setCell (smA Wg) (.int .u32 0)) (semEvents (smA Wg))) ∧ Run P true Ev (W4Stop P Ev ty Wg Next) ⟨x.O, 1, g', x.w⟩
/-- At the CompareAndSwap, 'n' having been read. -/
def W2Stop (n : Nat) (Miss : Pos → Prop) (x : Pos) : Prop := x.d = 1 ∧ x.g.status = .running ∧
  (∃ g', (∀ w₁, WgAt ty Wg w₁ ((n : Int) * KK) 0 → stepG P true x.g w₁ = .go g' (w₁.setCell (stA Wg) (.int .u64 ((n : Int) * KK + 1))) #[rd (stA Wg), wr (stA Wg)]) ∧ Run P true Ev (W3Stop P Ev ty Wg Next) ⟨x.O, 1, g', x.w⟩) ∧
  (∃ g', (∀ w₁ (m : Nat), m ≠ n → m < 2147483648 → WgAt ty Wg w₁ ((m : Int) * KK) 0 → stepG P true x.g w₁ = .go g' w₁ #[rd (stA Wg)]) ∧ Run P true Ev Miss ⟨x.O, 1, g', x.w⟩)
/-- At the load: nobody is counted. -/
def W1Zero (x : Pos) : Prop := ∃ g', (∀ w₁, WgAt ty Wg w₁ 0 0 → stepG P true x.g w₁ = .go g' w₁ #[rd (stA Wg)]) ∧ Run P true Ev (AcqStop P Ev Wg Next) ⟨x.O, 1, g', x.w⟩
/-- At the load: at most N are counted. -/
def W1Stop : Nat → Pos → Prop
  | 0, x => x.d = 1 ∧ x.g.status = .running ∧ W1Zero P Ev ty Wg Next x
  | N + 1, x => x.d = 1 ∧ x.g.status = .running ∧ W1Zero P Ev ty Wg Next x ∧ ∀ n : Nat, 1 ≤ n → n ≤ N + 1 →
      ∃ g', (∀ w₁, WgAt ty Wg w₁ ((n : Int) * KK) 0 → stepG P true x.g w₁ = .go g' w₁ #[rd (stA Wg)]) ∧ Run P true Ev (W2Stop P Ev ty Wg Next n (W1Stop N)) ⟨x.O, 1, g', x.w⟩
end

theorem rw_rely {O : Own} {ty : TypeId} {Wg : Nat} {w0 w w₁ : World} (h : (WgLive ty Wg w ∧ (∀ a b, Rely O a b → WgLive ty Wg a → WgLive ty Wg b)) ∧ Rely O w0 w) (r : Rely O w w₁) : (WgLive ty Wg w₁ ∧ (∀ a b, Rely O a b → WgLive ty Wg a → WgLive ty Wg b)) ∧ Rely O w0 w₁ := ⟨⟨h.1.2 _ _ r h.1.1, h.1.2⟩, h.2.trans r⟩
theorem lc0 {ty : TypeId} {Wg : Nat} {w : World} {Q : Prop} (h : WgLive ty Wg w ∧ Q) : ∃ v, w.cell? ⟨Wg, 0, none⟩ = some v := let ⟨_, _, x⟩ := h.1; ⟨_, x.cellSt⟩
theorem lc1 {ty : TypeId} {Wg : Nat} {w : World} {Q : Prop} (h : WgLive ty Wg w ∧ Q) : ∃ v, w.cell? ⟨Wg, 1, none⟩ = some v := let ⟨_, _, x⟩ := h.1; ⟨_, x.cellSm⟩

variable {L : WgLink}
set_option linter.unusedVariables false

set_option maxRecDepth 100000 in
set_option maxHeartbeats 8000000 in
theorem wait_head {P : Program} (H : WgLib P L) {Ev : Own → Event → Prop} {Next : Pos → Prop} {O : Own} {Wg : Nat} (hE : GEv Ev Wg) (hSW : ∀ O, Ev O (mk (.write (smA Wg))))
    {b₀ : Frame} {a₀ : Act} {ops₀ : Array Oper} {i₀ : Nat} {rest₀ : List Nat} {k₀ : List Item} {cs : List Frame} {w0 : World}
    (hk : ∀ w', Rely O w0 w' → Run P true Ev Next ⟨O, 0, G (b₀.at (a₀.put ((ops₀[i₀]?).bind (·.dst)) (.tuple #[])) (.inRegion ops₀ rest₀ :: k₀)) cs, w'⟩) (N : Nat) (hN : N < 2147483648) :
    ∀ (T : Array Value), T.size = 84 → T[0]? = some (.pointer (some ⟨Wg, 0, none⟩)) → ∀ w, (WgLive L.tWg Wg w ∧ (∀ a b, Rely O a b → WgLive L.tWg Wg a → WgLive L.tWg Wg b)) ∧ Rely O w0 w →
    Run P true Ev (W1Stop P Ev L.tWg Wg Next N) ⟨O, 1, G ((base L.wait).at ⟨T, []⟩ [.code (L7 L), .inLoop (L7 L), .inBlock 0]) (b₀.at a₀ (.inRegion ops₀ (i₀ :: rest₀) :: k₀) :: cs), w⟩ := by
  induction N with
  | zero =>
    intro T hT t0 w hF
    lib_facts
    obtain ⟨v0, v1, v2, v3, v4, v5, v6, v7, v8, v9, v10, v11, v12, v13, v14, v15, v16, v17, v18, v19, v20, v21, v22, v23, v24, v25, v26, v27, v28, v29, v30, v31, v32, v33, v34, v35, v36, v37, v38, v39, v40, v41, v42, v43, v44, v45, v46, v47, v48, v49, v50, v51, v52, v53, v54, v55, v56, v57, v58, v59, v60, v61, v62, v63, v64, v65, v66, v67, v68, v69, v70, v71, v72, v73, v74, v75, v76, v77, v78, v79, v80, v81, v82, v83, rfl⟩ := array84 T hT
    simp only [List.getElem?_toArray, List.getElem?_cons_zero, Option.some.injEq] at t0
    subst t0
    simp only [L7, body_wait, waitFn, Option.getD_some]
    refine Run.of_goes (R := Rely O) (D := DC0) (S := fun g w => Run P true Ev (W1Stop P Ev L.tWg Wg Next 0) ⟨O, 1, g, w⟩) (n := 40) (fun _ _ h => h) dc0_ok (fun _ _ h => h) ?_
    u_c stepG_block rw_rely hF
    u_c stepG_seq rw_rely hF
    u_reg rw_rely hF
    u_op rw_rely hF
    u_op rw_rely hF
    u_op rw_rely hF
    u_call H.f_uLoad (nm_uLoad L) uLoadFn rw_rely hF
    u_c stepG_seq rw_rely hF
    u_reg rw_rely hF
    u_op rw_rely hF
    u_c stepG_region_end rw_rely hF
    u_c stepG_seq rw_rely hF
    u_reg rw_rely hF
    u_op rw_rely hF
    u_op rw_rely hF
    u_op rw_rely hF
    refine Goes.stop (fun w₁ h₁ => ?_)
    replace hF := rw_rely hF h₁
    clear h₁
    refine Run.here (fun w₁ h₁ => ⟨rfl, rfl, _, fun w₂ hw => stepG_load_atomic (v := 0) rfl rfl (by k_ne) rfl H.f_loadU64 (x_loadU64_n L) (x_loadU64_b L) (x_loadU64_x L) .u64 (x_loadU64_f L) rfl hw.cellSt, ?_⟩)
    replace hF := rw_rely hF h₁
    clear h₁
    refine Run.of_goes (R := Rely O) (D := DC0) (S := fun g w => Run P true Ev (AcqStop P Ev Wg Next) ⟨O, 1, g, w⟩) (n := 60) (fun _ _ h => h) dc0_ok (fun _ _ h => h) ?_
    walk_nrm
    u_op rw_rely hF
    u_c stepG_region_end rw_rely hF
    u_c stepG_ret' rw_rely hF
    u_leave1 H.f_uLoad rw_rely hF
    u_op rw_rely hF
    u_c stepG_region_end rw_rely hF
    u_c stepG_seq rw_rely hF
    u_reg rw_rely hF
    u_op rw_rely hF
    u_op rw_rely hF
    u_op rw_rely hF
    u_op rw_rely hF
    u_c stepG_region_end rw_rely hF
    u_c stepG_seq rw_rely hF
    u_reg rw_rely hF
    u_op rw_rely hF
    u_op rw_rely hF
    u_op rw_rely hF
    u_op rw_rely hF
    u_c stepG_region_end rw_rely hF
    u_c stepG_seq rw_rely hF
    u_c stepG_seq rw_rely hF
    u_reg rw_rely hF
    u_op rw_rely hF
    u_op rw_rely hF
    u_c stepG_region_end rw_rely hF
    u_cnd true rw_rely hF
    u_c stepG_seq rw_rely hF
    u_cnd true rw_rely hF
    u_c stepG_seq rw_rely hF
    u_reg rw_rely hF
    refine Goes.stop (fun w₁ h₁ => ?_)
    replace hF := rw_rely hF h₁
    clear h₁
    refine Run.say rfl (fun w₁ => stepG_mark0 .enable (by simp) rfl rfl (by k_ne) rfl H.f_enable (x_enable_n L) (x_enable_b L) (x_enable_x L) (x_enable_f L)) (by simp; exact hE.ena O) ?_
    refine Run.of_goes (R := Rely O) (D := DC0) (S := fun g w => Run P true Ev (AcqStop P Ev Wg Next) ⟨O, 0, g, w⟩) (n := 20) (fun _ _ h => h) dc0_ok (fun _ _ h => h) ?_
    walk_nrm
    u_c stepG_region_end rw_rely hF
    u_reg rw_rely hF
    u_op rw_rely hF
    u_conv H.underlying_tWgP H.room_tWg (lc0 hF.1).choose_spec rw_rely hF
    refine Goes.stop (fun w₁ h₁ => ?_)
    replace hF := rw_rely hF h₁
    clear h₁
    refine Run.here (fun w₁ h₁ => ⟨rfl, rfl, _, fun w₂ => stepG_markAt .acquire (by simp) rfl rfl (by k_ne) rfl H.f_acquire (x_acquire_n L) (x_acquire_b L) (x_acquire_x L) (x_acquire_f L) (by simp [Act.eval, stA]), ?_⟩)
    replace hF := rw_rely hF h₁
    clear h₁
    refine Run.of_goes (R := Rely O) (D := DC0) (S := fun g w => Run P true Ev (Next) ⟨O, 0, g, w⟩) (n := 60) (fun _ _ h => h) dc0_ok (fun _ _ h => h) ?_
    walk_nrm
    u_c stepG_region_end rw_rely hF
    u_c stepG_seq rw_rely hF
    u_c stepG_seq rw_rely hF
    u_reg rw_rely hF
    u_op rw_rely hF
    u_op rw_rely hF
    u_op rw_rely hF
    first | u_skip rw_rely hF | u_op rw_rely hF
    first | u_skip rw_rely hF | u_op rw_rely hF
    first | u_skip rw_rely hF | u_op rw_rely hF
    u_op rw_rely hF
    u_op rw_rely hF
    first | u_skip rw_rely hF | u_op rw_rely hF
    first | u_skip rw_rely hF | u_op rw_rely hF
    u_op rw_rely hF
    u_c stepG_region_end rw_rely hF
    u_cnd false rw_rely hF
    u_c stepG_skip rw_rely hF
    u_c stepG_ret' rw_rely hF
    refine Goes.stop (fun w₁ h₁ => ?_)
    replace hF := rw_rely hF h₁
    clear h₁
    refine Run.say rfl (fun w₁ => stepG_leave (b := base L.wait) rfl rfl H.f_wait (results_none rfl _ P w₁) (events_results_none rfl _ _)) (by simp) ?_
    rw [Frame.finish_at]
    exact hk _ hF.2
  | succ N ih =>
    intro T hT t0 w hF
    lib_facts
    obtain ⟨v0, v1, v2, v3, v4, v5, v6, v7, v8, v9, v10, v11, v12, v13, v14, v15, v16, v17, v18, v19, v20, v21, v22, v23, v24, v25, v26, v27, v28, v29, v30, v31, v32, v33, v34, v35, v36, v37, v38, v39, v40, v41, v42, v43, v44, v45, v46, v47, v48, v49, v50, v51, v52, v53, v54, v55, v56, v57, v58, v59, v60, v61, v62, v63, v64, v65, v66, v67, v68, v69, v70, v71, v72, v73, v74, v75, v76, v77, v78, v79, v80, v81, v82, v83, rfl⟩ := array84 T hT
    simp only [List.getElem?_toArray, List.getElem?_cons_zero, Option.some.injEq] at t0
    subst t0
    have ihh := ih (by omega)
    simp only [L7, body_wait, waitFn, Option.getD_some] at ihh ⊢
    refine Run.of_goes (R := Rely O) (D := DC0) (S := fun g w => Run P true Ev (W1Stop P Ev L.tWg Wg Next (N + 1)) ⟨O, 1, g, w⟩) (n := 40) (fun _ _ h => h) dc0_ok (fun _ _ h => h) ?_
    u_c stepG_block rw_rely hF
    u_c stepG_seq rw_rely hF
    u_reg rw_rely hF
    u_op rw_rely hF
    u_op rw_rely hF
    u_op rw_rely hF
    u_call H.f_uLoad (nm_uLoad L) uLoadFn rw_rely hF
    u_c stepG_seq rw_rely hF
    u_reg rw_rely hF
    u_op rw_rely hF
    u_c stepG_region_end rw_rely hF
    u_c stepG_seq rw_rely hF
    u_reg rw_rely hF
    u_op rw_rely hF
    u_op rw_rely hF
    u_op rw_rely hF
    refine Goes.stop (fun w₁ h₁ => ?_)
    replace hF := rw_rely hF h₁
    clear h₁
    refine Run.here (fun w₁ h₁ => ⟨rfl, rfl, ⟨_, fun w₂ hw => stepG_load_atomic (v := 0) rfl rfl (by k_ne) rfl H.f_loadU64 (x_loadU64_n L) (x_loadU64_b L) (x_loadU64_x L) .u64 (x_loadU64_f L) rfl hw.cellSt, ?_⟩, fun n hn1 hn2 => ?_⟩)
    · replace hF := rw_rely hF h₁
      clear h₁
      refine Run.of_goes (R := Rely O) (D := DC0) (S := fun g w => Run P true Ev (AcqStop P Ev Wg Next) ⟨O, 1, g, w⟩) (n := 60) (fun _ _ h => h) dc0_ok (fun _ _ h => h) ?_
      walk_nrm
      u_op rw_rely hF
      u_c stepG_region_end rw_rely hF
      u_c stepG_ret' rw_rely hF
      u_leave1 H.f_uLoad rw_rely hF
      u_op rw_rely hF
      u_c stepG_region_end rw_rely hF
      u_c stepG_seq rw_rely hF
      u_reg rw_rely hF
      u_op rw_rely hF
      u_op rw_rely hF
      u_op rw_rely hF
      u_op rw_rely hF
      u_c stepG_region_end rw_rely hF
      u_c stepG_seq rw_rely hF
      u_reg rw_rely hF
      u_op rw_rely hF
      u_op rw_rely hF
      u_op rw_rely hF
      u_op rw_rely hF
      u_c stepG_region_end rw_rely hF
      u_c stepG_seq rw_rely hF
      u_c stepG_seq rw_rely hF
      u_reg rw_rely hF
      u_op rw_rely hF
      u_op rw_rely hF
      u_c stepG_region_end rw_rely hF
      u_cnd true rw_rely hF
      u_c stepG_seq rw_rely hF
      u_cnd true rw_rely hF
      u_c stepG_seq rw_rely hF
      u_reg rw_rely hF
      refine Goes.stop (fun w₁ h₁ => ?_)
      replace hF := rw_rely hF h₁
      clear h₁
      refine Run.say rfl (fun w₁ => stepG_mark0 .enable (by simp) rfl rfl (by k_ne) rfl H.f_enable (x_enable_n L) (x_enable_b L) (x_enable_x L) (x_enable_f L)) (by simp; exact hE.ena O) ?_
      refine Run.of_goes (R := Rely O) (D := DC0) (S := fun g w => Run P true Ev (AcqStop P Ev Wg Next) ⟨O, 0, g, w⟩) (n := 20) (fun _ _ h => h) dc0_ok (fun _ _ h => h) ?_
      walk_nrm
      u_c stepG_region_end rw_rely hF
      u_reg rw_rely hF
      u_op rw_rely hF
      u_conv H.underlying_tWgP H.room_tWg (lc0 hF.1).choose_spec rw_rely hF
      refine Goes.stop (fun w₁ h₁ => ?_)
      replace hF := rw_rely hF h₁
      clear h₁
      refine Run.here (fun w₁ h₁ => ⟨rfl, rfl, _, fun w₂ => stepG_markAt .acquire (by simp) rfl rfl (by k_ne) rfl H.f_acquire (x_acquire_n L) (x_acquire_b L) (x_acquire_x L) (x_acquire_f L) (by simp [Act.eval, stA]), ?_⟩)
      replace hF := rw_rely hF h₁
      clear h₁
      refine Run.of_goes (R := Rely O) (D := DC0) (S := fun g w => Run P true Ev (Next) ⟨O, 0, g, w⟩) (n := 60) (fun _ _ h => h) dc0_ok (fun _ _ h => h) ?_
      walk_nrm
      u_c stepG_region_end rw_rely hF
      u_c stepG_seq rw_rely hF
      u_c stepG_seq rw_rely hF
      u_reg rw_rely hF
      u_op rw_rely hF
      u_op rw_rely hF
      u_op rw_rely hF
      first | u_skip rw_rely hF | u_op rw_rely hF
      first | u_skip rw_rely hF | u_op rw_rely hF
      first | u_skip rw_rely hF | u_op rw_rely hF
      u_op rw_rely hF
      u_op rw_rely hF
      first | u_skip rw_rely hF | u_op rw_rely hF
      first | u_skip rw_rely hF | u_op rw_rely hF
      u_op rw_rely hF
      u_c stepG_region_end rw_rely hF
      u_cnd false rw_rely hF
      u_c stepG_skip rw_rely hF
      u_c stepG_ret' rw_rely hF
      refine Goes.stop (fun w₁ h₁ => ?_)
      replace hF := rw_rely hF h₁
      clear h₁
      refine Run.say rfl (fun w₁ => stepG_leave (b := base L.wait) rfl rfl H.f_wait (results_none rfl _ P w₁) (events_results_none rfl _ _)) (by simp) ?_
      rw [Frame.finish_at]
      exact hk _ hF.2
    · replace hF := rw_rely hF h₁
      clear h₁
      obtain ⟨S, hS⟩ : ∃ S : Int, (n : Int) * KK = S := ⟨_, rfl⟩
      have a1 : S / 4294967296 = (n : Int) := by rw [← hS]; simp only [KK]; omega
      have b1 : bits .and .u64 S 2147483648 = 0 := by rw [← hS]; have := st_flag n 0 (by omega) (by omega); simpa [KK] using this
      have b2 : bits .and .u64 S 2147483647 = 0 := by rw [← hS]; have := st_waiters n 0 (by omega) (by omega); simpa [KK] using this
      have c1 : IntKind.i32.wrap (n : Int) = (n : Int) := by rw [IntKind.wrap_i32]; omega
      have s1 : IntKind.u64.wrap (S + 1) = S + 1 := by rw [IntKind.wrap_u64, ← hS]; simp only [KK]; omega
      have q3 : decide ((n : Int) < 0) = false := decide_eq_false (by omega)
      have q4 : decide (0 < (n : Int)) = true := decide_eq_true (by omega)
      have q5 : ((n : Int) == 0) = false := by simp; omega
      have q6 : decide ((n : Int) = 0) = false := decide_eq_false (by omega)
      refine ⟨_, fun w₂ hw => stepG_load_atomic (v := S) rfl rfl (by k_ne) rfl H.f_loadU64 (x_loadU64_n L) (x_loadU64_b L) (x_loadU64_x L) .u64 (x_loadU64_f L) rfl (show WgAt L.tWg Wg w₂ S 0 from hS ▸ hw).cellSt, ?_⟩
      refine Run.of_goes (R := Rely O) (D := DC0) (S := fun g w => Run P true Ev (W2Stop P Ev L.tWg Wg Next n (W1Stop P Ev L.tWg Wg Next N)) ⟨O, 1, g, w⟩) (n := 90) (fun _ _ h => h) dc0_ok (fun _ _ h => h) ?_
      walk_nrm
      u_op rw_rely hF
      u_c stepG_region_end rw_rely hF
      u_c stepG_ret' rw_rely hF
      u_leave1 H.f_uLoad rw_rely hF
      u_op rw_rely hF
      u_c stepG_region_end rw_rely hF
      u_c stepG_seq rw_rely hF
      u_reg rw_rely hF
      u_op rw_rely hF
      u_op rw_rely hF
      u_op rw_rely hF
      u_op rw_rely hF
      u_c stepG_region_end rw_rely hF
      u_c stepG_seq rw_rely hF
      u_reg rw_rely hF
      u_op rw_rely hF
      u_op rw_rely hF
      u_op rw_rely hF
      u_op rw_rely hF
      u_c stepG_region_end rw_rely hF
      u_c stepG_seq rw_rely hF
      u_c stepG_seq rw_rely hF
      u_reg rw_rely hF
      u_op rw_rely hF
      u_op rw_rely hF
      u_c stepG_region_end rw_rely hF
      u_cnd false rw_rely hF
      u_c stepG_skip rw_rely hF
      u_c stepG_seq rw_rely hF
      u_reg rw_rely hF
      u_op rw_rely hF
      u_op rw_rely hF
      u_op rw_rely hF
      u_op rw_rely hF
      u_op rw_rely hF
      u_op rw_rely hF
      u_call H.f_uCas (nm_uCas L) uCasFn rw_rely hF
      u_c stepG_seq rw_rely hF
      u_reg rw_rely hF
      u_op rw_rely hF
      u_c stepG_region_end rw_rely hF
      u_c stepG_seq rw_rely hF
      u_reg rw_rely hF
      u_op rw_rely hF
      u_op rw_rely hF
      u_op rw_rely hF
      u_op rw_rely hF
      u_op rw_rely hF
      refine Goes.stop (fun w₁ h₁ => ?_)
      replace hF := rw_rely hF h₁
      clear h₁
      refine Run.here (fun w₁ h₁ => ?_)
      unfold W2Stop
      simp only [hS]
      refine ⟨by first | trivial | rfl, by first | trivial | rfl, ⟨_, fun w₂ hw => (stepG_cas_hit (v := S) (n := S + 1) rfl rfl (by k_ne) rfl H.f_casU64 (x_casU64_n L) (x_casU64_b L) (x_casU64_x L) .u64 (x_casU64_f L) rfl rfl rfl hw.cellSt (hw.thaw 0)).trans (by rfl), ?_⟩,
        ⟨_, fun w₂ m hm hm2 hw => stepG_cas_miss (v := (m : Int) * KK) (old := S) (n := S + 1) rfl rfl (by k_ne) rfl H.f_casU64 (x_casU64_n L) (x_casU64_b L) (x_casU64_x L) .u64 (x_casU64_f L) rfl rfl rfl hw.cellSt (hw.thaw 0) (by rw [← hS]; simp only [KK]; omega), ?_⟩⟩
      · replace hF := rw_rely hF h₁
        clear h₁
        refine Run.of_goes (R := Rely O) (D := DC0) (S := fun g w => Run P true Ev (W3Stop P Ev L.tWg Wg Next) ⟨O, 1, g, w⟩) (n := 90) (fun _ _ h => h) dc0_ok (fun _ _ h => h) ?_
        walk_nrm
        u_op rw_rely hF
        u_c stepG_region_end rw_rely hF
        u_c stepG_ret' rw_rely hF
        u_leave1 H.f_uCas rw_rely hF
        u_c stepG_region_end rw_rely hF
        u_cnd true rw_rely hF
        u_c stepG_seq rw_rely hF
        u_c stepG_seq rw_rely hF
        u_reg rw_rely hF
        u_op rw_rely hF
        first | u_skip rw_rely hF | u_op rw_rely hF
        first | u_skip rw_rely hF | u_op rw_rely hF
        u_op rw_rely hF
        u_c stepG_region_end rw_rely hF
        u_cnd true rw_rely hF
        u_reg rw_rely hF
        u_op rw_rely hF
        u_op rw_rely hF
        u_op rw_rely hF
        u_conv H.underlying_tPU32 H.room_tU32 (lc1 hF.1).choose_spec rw_rely hF
        refine Goes.stop (fun w₁ h₁ => ?_)
        replace hF := rw_rely hF h₁
        clear h₁
        refine Run.say rfl (fun w₁ => stepG_markAt .write (by simp) rfl rfl (by k_ne) rfl H.f_raceWrite (x_raceWrite_n L) (x_raceWrite_b L) (x_raceWrite_x L) (x_raceWrite_f L) (ad := ⟨Wg, 1, none⟩) (by simp [Act.eval])) (by simp; exact hSW O) ?_
        refine Run.of_goes (R := Rely O) (D := DC0) (S := fun g w => Run P true Ev (W3Stop P Ev L.tWg Wg Next) ⟨O, 1, g, w⟩) (n := 90) (fun _ _ h => h) dc0_ok (fun _ _ h => h) ?_
        walk_nrm
        u_c stepG_region_end rw_rely hF
        u_c stepG_seq rw_rely hF
        u_reg rw_rely hF
        u_op rw_rely hF
        u_c stepG_region_end rw_rely hF
        u_c stepG_seq rw_rely hF
        u_c stepG_seq rw_rely hF
        u_reg rw_rely hF
        u_op rw_rely hF
        u_op rw_rely hF
        u_op rw_rely hF
        u_op rw_rely hF
        first | u_skip rw_rely hF | u_op rw_rely hF
        u_op rw_rely hF
        u_c stepG_region_end rw_rely hF
        u_cnd false rw_rely hF
        u_c stepG_skip rw_rely hF
        u_c stepG_seq rw_rely hF
        u_reg rw_rely hF
        u_op rw_rely hF
        u_op rw_rely hF
        u_op rw_rely hF
        u_op rw_rely hF
        refine Goes.stop (fun w₁ h₁ => ?_)
        replace hF := rw_rely hF h₁
        clear h₁
        refine Run.here (fun w₁ h₁ => ⟨rfl, rfl, rfl, fun w₂ st hw => stepG_semacquire_wait rfl rfl rfl H.f_semacquire (x_semacquire_n L) (x_semacquire_b L) (x_semacquire_x L) (x_semacquire_f L) (by simp [Act.eval, smA]) hw.cellSm,
          _, fun w₂ hf => (stepG_semacquire (n := 1) rfl rfl (by k_ne) rfl H.f_semacquire (x_semacquire_n L) (x_semacquire_b L) (x_semacquire_x L) (x_semacquire_f L) (by simp [Act.eval, smA]) hf.cellSm (by k_ne) (hf.thaw 1)).trans (by rfl), ?_⟩)
        replace hF := rw_rely hF h₁
        clear h₁
        refine Run.of_goes (R := Rely O) (D := DC0) (S := fun g w => Run P true Ev (W4Stop P Ev L.tWg Wg Next) ⟨O, 1, g, w⟩) (n := 90) (fun _ _ h => h) dc0_ok (fun _ _ h => h) ?_
        walk_nrm
        u_c stepG_region_end rw_rely hF
        u_c stepG_seq rw_rely hF
        u_reg rw_rely hF
        u_op rw_rely hF
        u_op rw_rely hF
        u_op rw_rely hF
        u_call H.f_uLoad (nm_uLoad L) uLoadFn rw_rely hF
        u_c stepG_seq rw_rely hF
        u_reg rw_rely hF
        u_op rw_rely hF
        u_c stepG_region_end rw_rely hF
        u_c stepG_seq rw_rely hF
        u_reg rw_rely hF
        u_op rw_rely hF
        u_op rw_rely hF
        u_op rw_rely hF
        refine Goes.stop (fun w₁ h₁ => ?_)
        replace hF := rw_rely hF h₁
        clear h₁
        refine Run.here (fun w₁ h₁ => ⟨rfl, rfl, _, fun w₂ hw => stepG_load_atomic (v := 0) rfl rfl (by k_ne) rfl H.f_loadU64 (x_loadU64_n L) (x_loadU64_b L) (x_loadU64_x L) .u64 (x_loadU64_f L) rfl hw.cellSt, ?_⟩)
        replace hF := rw_rely hF h₁
        clear h₁
        refine Run.of_goes (R := Rely O) (D := DC0) (S := fun g w => Run P true Ev (AcqStop P Ev Wg Next) ⟨O, 1, g, w⟩) (n := 60) (fun _ _ h => h) dc0_ok (fun _ _ h => h) ?_
        walk_nrm
        u_op rw_rely hF
        u_c stepG_region_end rw_rely hF
        u_c stepG_ret' rw_rely hF
        u_leave1 H.f_uLoad rw_rely hF
        u_op rw_rely hF
        u_op rw_rely hF
        u_c stepG_region_end rw_rely hF
        u_c stepG_seq rw_rely hF
        u_cnd true rw_rely hF
        u_c stepG_seq rw_rely hF
        u_reg rw_rely hF
        refine Goes.stop (fun w₁ h₁ => ?_)
        replace hF := rw_rely hF h₁
        clear h₁
        refine Run.say rfl (fun w₁ => stepG_mark0 .enable (by simp) rfl rfl (by k_ne) rfl H.f_enable (x_enable_n L) (x_enable_b L) (x_enable_x L) (x_enable_f L)) (by simp; exact hE.ena O) ?_
        refine Run.of_goes (R := Rely O) (D := DC0) (S := fun g w => Run P true Ev (AcqStop P Ev Wg Next) ⟨O, 0, g, w⟩) (n := 20) (fun _ _ h => h) dc0_ok (fun _ _ h => h) ?_
        walk_nrm
        u_c stepG_region_end rw_rely hF
        u_reg rw_rely hF
        u_op rw_rely hF
        u_conv H.underlying_tWgP H.room_tWg (lc0 hF.1).choose_spec rw_rely hF
        refine Goes.stop (fun w₁ h₁ => ?_)
        replace hF := rw_rely hF h₁
        clear h₁
        refine Run.here (fun w₁ h₁ => ⟨rfl, rfl, _, fun w₂ => stepG_markAt .acquire (by simp) rfl rfl (by k_ne) rfl H.f_acquire (x_acquire_n L) (x_acquire_b L) (x_acquire_x L) (x_acquire_f L) (by simp [Act.eval, stA]), ?_⟩)
        replace hF := rw_rely hF h₁
        clear h₁
        refine Run.of_goes (R := Rely O) (D := DC0) (S := fun g w => Run P true Ev (Next) ⟨O, 0, g, w⟩) (n := 60) (fun _ _ h => h) dc0_ok (fun _ _ h => h) ?_
        walk_nrm
        u_c stepG_region_end rw_rely hF
        u_c stepG_seq rw_rely hF
        u_c stepG_seq rw_rely hF
        u_reg rw_rely hF
        u_op rw_rely hF
        u_c stepG_region_end rw_rely hF
        u_cnd false rw_rely hF
        u_c stepG_skip rw_rely hF
        u_c stepG_ret' rw_rely hF
        refine Goes.stop (fun w₁ h₁ => ?_)
        replace hF := rw_rely hF h₁
        clear h₁
        refine Run.say rfl (fun w₁ => stepG_leave (b := base L.wait) rfl rfl H.f_wait (results_none rfl _ P w₁) (events_results_none rfl _ _)) (by simp) ?_
        rw [Frame.finish_at]
        exact hk _ hF.2
      · replace hF := rw_rely hF h₁
        clear h₁
        refine Run.of_goes (R := Rely O) (D := DC0) (S := fun g w => Run P true Ev (W1Stop P Ev L.tWg Wg Next N) ⟨O, 1, g, w⟩) (n := 30) (fun _ _ h => h) dc0_ok (fun _ _ h => h) ?_
        walk_nrm
        u_op rw_rely hF
        u_c stepG_region_end rw_rely hF
        u_c stepG_ret' rw_rely hF
        u_leave1 H.f_uCas rw_rely hF
        u_c stepG_region_end rw_rely hF
        u_cnd false rw_rely hF
        u_c stepG_skip rw_rely hF
        u_c stepG_inBlock rw_rely hF
        u_c stepG_inLoop rw_rely hF
        refine Goes.stop (fun w₁ h₁ => ?_)
        replace hF := rw_rely hF h₁
        clear h₁
        exact ihh _ (by simp) (by simp) _ hF

end Go.Proofs.Ytgpplekabohneaa.Co

namespace Go.Proofs.Ytgpplekabohneaa.Co
open Go Go.Conc Go.ConcN Go.RowKit Go.Conc.Lib Go.ConcR.Gen Go.ConcN.Gen
open Go.ConcR (KK wgBlock WgAt stA smA rd wr mk DC0)

variable {L : WgLink}

set_option maxRecDepth 100000 in
set_option maxHeartbeats 8000000 in
theorem wait_run {P : Program} (H : WgLib P L) {Ev : Own → Event → Prop} {Next : Pos → Prop} {O : Own} {Wg : Nat} (hE : GEv Ev Wg) (hSW : ∀ O, Ev O (mk (.write (smA Wg))))
    {b₀ : Frame} {a₀ : Act} {ops₀ : Array Oper} {i₀ : Nat} {rest₀ : List Nat} {k₀ : List Item} {cs : List Frame} {w0 : World}
    (hk : ∀ w', Rely O w0 w' → Run P true Ev Next ⟨O, 0, G (b₀.at (a₀.put ((ops₀[i₀]?).bind (·.dst)) (.tuple #[])) (.inRegion ops₀ rest₀ :: k₀)) cs, w'⟩) (N : Nat) (hN : N < 2147483648)
    (hlive : ∀ a b, Rely O a b → WgLive L.tWg Wg a → WgLive L.tWg Wg b) (w : World) (hw : WgLive L.tWg Wg w) (hr : Rely O w0 w) :
    Run P true Ev (W1Stop P Ev L.tWg Wg Next N) ⟨O, 0, G ((base L.wait).at ⟨#[.pointer (some ⟨Wg, 0, none⟩), undef, undef, undef, undef, undef, undef, undef, undef, undef, undef, undef, undef, undef, undef, undef, undef, undef, undef, undef, undef, undef, undef, undef, undef, undef, undef, undef, undef, undef, undef, undef, undef, undef, undef, undef, undef, undef, undef, undef, undef, undef, undef, undef, undef, undef, undef, undef, undef, undef, undef, undef, undef, undef, undef, undef, undef, undef, undef, undef, undef, undef, undef, undef, undef, undef, undef, undef, undef, undef, undef, undef, undef, undef, undef, undef, undef, undef, undef, undef, undef, undef, undef, undef], []⟩ [.code (body_wait L)]) (b₀.at a₀ (.inRegion ops₀ (i₀ :: rest₀) :: k₀) :: cs), w⟩ := by
  have hF : (WgLive L.tWg Wg w ∧ (∀ a b, Rely O a b → WgLive L.tWg Wg a → WgLive L.tWg Wg b)) ∧ Rely O w0 w := ⟨⟨hw, hlive⟩, hr⟩
  have hd := wait_head H hE hSW hk N hN
  lib_facts
  simp only [L7, body_wait, waitFn, Option.getD_some] at hd ⊢
  refine Run.of_goes (R := Rely O) (D := DC0) (S := fun g w => Run P true Ev (W1Stop P Ev L.tWg Wg Next N) ⟨O, 0, g, w⟩) (n := 20) (fun _ _ h => h) dc0_ok (fun _ _ h => h) ?_
  u_c stepG_seq rw_rely hF
  u_cnd true rw_rely hF
  u_reg rw_rely hF
  refine Goes.stop (fun w₁ h₁ => ?_)
  replace hF := rw_rely hF h₁
  clear h₁
  refine Run.say rfl (fun w₁ => stepG_mark0 .disable (by simp) rfl rfl (by k_ne) rfl H.f_disable (x_disable_n L) (x_disable_b L) (x_disable_x L) (x_disable_f L)) (by simp; exact hE.dis O) ?_
  refine Run.of_goes (R := Rely O) (D := DC0) (S := fun g w => Run P true Ev (W1Stop P Ev L.tWg Wg Next N) ⟨O, 1, g, w⟩) (n := 20) (fun _ _ h => h) dc0_ok (fun _ _ h => h) ?_
  walk_nrm
  u_c stepG_region_end rw_rely hF
  u_c stepG_block rw_rely hF
  u_c stepG_loop rw_rely hF
  refine Goes.stop (fun w₁ h₁ => ?_)
  replace hF := rw_rely hF h₁
  clear h₁
  exact hd _ (by simp) (by simp) _ hF

end Go.Proofs.Ytgpplekabohneaa.Co

namespace Go.Proofs.Ytgpplekabohneaa.Co
open Go Go.Conc Go.RowKit Go.ConcR.Gen Go.ConcN.Gen
open Go.ConcR (DC0)

/-- A packet with its place. -/
def plC (i : Nat) (p : Pk) : Array Value := #[.int .i64 i, .int .i64 p.tag, .int .i64 p.proto, .bool p.out, .int .i64 p.sa, .int .i64 p.sp, .int .i64 p.da, .int .i64 p.dp, .bool p.syn, .bool p.fin, .bool p.rst, .bool p.err, .int .i64 p.qsa, .int .i64 p.qsp, .int .i64 p.qda, .int .i64 p.qdp]
/-- A result. -/
def reC (p : Pk) (v : Int) : Array Value := #[.int .i64 p.tag, .int .i64 p.proto, .bool p.out, .int .i64 p.sa, .int .i64 p.sp, .int .i64 p.da, .int .i64 p.dp, .bool p.syn, .bool p.fin, .bool p.rst, .bool p.err, .int .i64 p.qsa, .int .i64 p.qsp, .int .i64 p.qda, .int .i64 p.qdp, .int .i64 v]

def loopOf : Code → Code
  | .seq _ b => loopOf b
  | .block _ c => loopOf c
  | .loop c => c
  | c => c

/-- The body of the worker's loop. -/
def wLoop (F : Func := Try.f53) : Code := loopOf (F.body.getD .skip)

/-- What a worker is given: its tenant's blocks, its channel, the results, the group. -/
structure WS where
  g : Nat
  hp : Nat
  hi : Nat
  c : Nat
  rs : Nat
  N : Nat
  Wg : Nat

def WS.sl (s : WS) : Value := .slice (some ⟨s.rs, 0, none⟩) s.N s.N
def WS.tmps (s : WS) (j : Nat → Value) : Array Value := #[.pointer (some ⟨s.g, 0, none⟩), .chan (some s.c), s.sl, .pointer (some ⟨s.Wg, 0, none⟩), j 4, j 5, j 6, j 7, j 8, j 9, j 10, .pointer (some ⟨s.Wg, 0, none⟩), .chan (some s.c), j 13, j 14, j 15, j 16, j 17, j 18, j 19, j 20, j 21, j 22, j 23, j 24, j 25, j 26, j 27, j 28, j 29]

/-- The record beneath: the goroutine was born for this one call. -/
def born0 (p : Program := Try.prog) : Frame := { (default : Frame) with fn := p.funcs.size, defers := [], mode := .panicking [goexitEntry] }

/-- At the head of the loop. -/
def WS.head (s : WS) (j : Nat → Value) (F : Func := Try.f53) (p : Program := Try.prog) : Goroutine := G ((baseD 53).at ⟨s.tmps j, [dcall 85 #[.pointer (some ⟨s.Wg, 0, none⟩)]]⟩ [.code (wLoop F), .inLoop (wLoop F), .inBlock 0]) [born0 p]

theorem rl_trans {O : Own} {a b c : World} (h : Rely O a b) (r : Rely O b c) : Rely O a c := h.trans r

/-- At a receive, in the walk's form. -/
theorem stepG_comm {P : Program} {main : Bool} {b : Frame} {a : Act} {k : List Item} {cs : List Frame} {ops : Array Oper} {i : Nat} {rest : List Nat} {o : Oper} {w : World} {cases : Array CommCase} {bl : Bool} {sh : CommShape} (ho : ops[i]? = some o)
    (hw : Region.wanted o (yielded ops a.tmps) = true) (hk : b.kind ≠ .early) (hr : (execOp a.eval o).run P w = .ok (.comm cases bl sh) w) (he : (execOp a.eval o).events P w #[] = #[]) :
    stepG P main (G (b.at a (.inRegion ops (i :: rest) :: k)) cs) w = .comm (G (b.at a (.inRegion ops (i :: rest) :: k)) cs) cases bl sh w #[] := by
  rw [stepG_oper ho hw]
  have hke : (b.kind == CallKind.early) = false := by cases hb : b.kind <;> simp_all
  simp [stepG.apply, hr, he, hke, GStep.after, G, Frame.at, seen_none]

/-- The zero of what goes over the channel. -/
def plZ : Value := .agg #[.int .i64 0, .int .i64 0, .int .i64 0, .bool false, .int .i64 0, .int .i64 0, .int .i64 0, .int .i64 0, .bool false, .bool false, .bool false, .bool false, .int .i64 0, .int .i64 0, .int .i64 0, .int .i64 0]

/-- The cells of the results at these places. -/
def WS.cells (s : WS) (all : List Nat) : Nat → Nat → Prop := fun b o => b = s.rs ∧ ∃ i ∈ all, 16 * i ≤ o ∧ o < 16 * i + 16
def WS.own (s : WS) (S : Nat → Prop) (all : List Nat) : Own := ⟨S, s.cells all, fun _ => False⟩
/-- What lies there. -/
def ResAt (w : World) (rs : Nat) (done : List (Nat × Pk × Int)) : Prop := ∀ x ∈ done, ∀ j v, (reC x.2.1 x.2.2)[j]? = some v → w.cell? ⟨rs, 16 * x.1 + j, none⟩ = some v
/-- The results are a row. -/
def RowAt (w : World) (rs N : Nat) : Prop := ∃ cur : Array Value, w.heap[rs]? = some (.cells cur 62 (0, 0)) ∧ cur.size = 16 * N

/-- What a worker holds between two packets. -/
structure Held (s : WS) (all : List Nat) (T : Tn) (done : List (Nat × Pk × Int)) (x : Pos) : Prop where
  d : x.d = 0
  ten : ∃ S L, TenC x.w S s.g s.hp s.hi T L ∧ x.O = s.own S all ∧ ¬ S s.rs ∧ ¬ S s.Wg
  res : ResAt x.w s.rs done
  row : RowAt x.w s.rs s.N
  lt : s.rs < x.w.heap.size ∧ s.Wg < x.w.heap.size

theorem Held.relied {s : WS} {all : List Nat} {T : Tn} {done : List (Nat × Pk × Int)} {O : Own} {d : Nat} {g : Goroutine} {w w₁ : World} (h : Held s all T done ⟨O, d, g, w⟩) (hd : ∀ x ∈ done, x.1 ∈ all) (hr : Rely O w w₁) (g' : Goroutine) : Held s all T done ⟨O, d, g', w₁⟩ := by
  obtain ⟨h1, ⟨S, L, h2, h3, h4, h4'⟩, h5, h6, h7⟩ := h
  dsimp only at h1 h2 h3 h5 h6 h7
  subst h3
  have hB : ∀ b, S b → w₁.heap[b]? = w.heap[b]? := fun b hb => hr.blk b hb
  have ht := h2.ten
  refine ⟨h1, ⟨S, L, ⟨⟨ht.sg, ht.shp, ht.shi, ht.ne, fun k hk => Nat.lt_of_lt_of_le (ht.bound k hk) hr.size, (hB _ ht.sg).trans ht.blk, ?_, ?_, ht.maps, ?_, ht.apart, ht.good⟩, ?_⟩, rfl, h4, h4'⟩, ?_, ?_, ⟨Nat.lt_of_lt_of_le h7.1 hr.size, Nat.lt_of_lt_of_le h7.2 hr.size⟩⟩
  · obtain ⟨es, c, e1, e2⟩ := ht.mp
    exact ⟨es, c, (hB _ ht.shp).trans e1, e2⟩
  · obtain ⟨es, c, e1, e2⟩ := ht.mi
    exact ⟨es, c, (hB _ ht.shi).trans e1, e2⟩
  · intro x hx
    obtain ⟨m1, m2, m3⟩ := ht.mem x hx
    refine ⟨⟨(hB _ m2).trans m1.1, m1.2.1, ?_⟩, m2, m3⟩
    rcases m1.2.2 with hn | ⟨q, cap, cur, e1, e2, e3, e4⟩
    · exact .inl hn
    · exact .inr ⟨q, cap, cur, e1, e2, (hB q (m3 q (by rw [e1]; rfl))).trans e3, e4⟩
  · refine ⟨fun b B hb => ?_, rfl, rfl⟩
    obtain ⟨rfl, hS⟩ := hb
    obtain ⟨o, O', e1, e2, e3⟩ := h2.wr.obj b b ⟨rfl, hS⟩
    exact ⟨o, O', (hB b hS).trans e1, (hB b hS).trans e2, e3⟩
  · intro x hx j v hj
    have hj16 : j < 16 := by
      have := (Array.getElem?_eq_some_iff.1 hj).1
      simpa [reC] using this
    rw [show w₁.cell? ⟨s.rs, 16 * x.1 + j, none⟩ = w.cell? ⟨s.rs, 16 * x.1 + j, none⟩ from hr.cell _ _ ⟨rfl, x.1, hd x hx, by omega, by omega⟩]
    exact h5 x hx j v hj
  · obtain ⟨cur, e1, e2⟩ := h6
    obtain ⟨c', e3, e4⟩ := hr.shape _ _ _ _ e1
    exact ⟨c', e3, e4.trans e2⟩

def opsOf : Code → Array Oper
  | .seq (.region _ ops _) _ => ops
  | _ => #[]
def restOf : Code → Code
  | .seq _ b => b
  | _ => .skip

/-- At the receive. -/
def WS.recv (s : WS) (j : Nat → Value) (F : Func := Try.f53) (p : Program := Try.prog) : Goroutine := G ((baseD 53).at ⟨s.tmps j, [dcall 85 #[.pointer (some ⟨s.Wg, 0, none⟩)]]⟩ [.inRegion (opsOf (wLoop F)) [0, 1], .code (restOf (wLoop F)), .inLoop (wLoop F), .inBlock 0]) [born0 p]

set_option maxRecDepth 100000 in
theorem head_recv (s : WS) (j : Nat → Value) {Ev : Own → Event → Prop} {Stop : Pos → Prop} {O : Own} {w : World} (hk : ∀ w₁, Rely O w w₁ → Run Try.prog false Ev Stop ⟨O, 0, s.recv j, w₁⟩) : Run Try.prog false Ev Stop ⟨O, 0, s.head j, w⟩ := by
  unfold WS.head
  unfold WS.recv at hk
  simp only [wLoop, loopOf, opsOf, restOf, Try.f53, Option.getD_some] at hk ⊢
  refine Run.of_goes (R := Rely O) (D := DC0) (S := fun g x => Run Try.prog false Ev Stop ⟨O, 0, g, x⟩) (n := 20) (fun _ _ h => h) dc0_ok (fun _ _ h => h) ?_
  have hF : Rely O w w := Rely.refl O w
  u_c stepG_seq rl_trans hF
  u_reg rl_trans hF
  refine Goes.stop (fun w₁ h₁ => ?_)
  exact hk _ (hF.trans h₁)

set_option maxRecDepth 100000 in
theorem recv_comm (s : WS) (j : Nat → Value) (main : Bool) (w₁ : World) : stepG Try.prog main (s.recv j) w₁ = .comm (s.recv j) #[rcase s.c plZ] true (.recv true) w₁ #[] := by
  unfold WS.recv
  simp only [wLoop, loopOf, opsOf, restOf, Try.f53, Option.getD_some]
  refine stepG_comm rfl rfl (by k_ne) ?_ ?_
  · simp [WS.tmps, go_sem, rcase, plZ]
  · simp [WS.tmps, go_sem]

end Go.Proofs.Ytgpplekabohneaa.Co
