/- The group's Add(1), while the group is the caller's own. · Rules of a walk in company that owns blocks: operations. · Loads, stores and makes of blocks in a walk in company that owns them. -/
import Derived.Test.YtgpplekabohneaaYai
import Derived.Test.YtgpplekabohneaaYal
import Derived.Test.YtgpplekabohneaaYak
import Derived.Laws.CopyRow
import Derived.Laws.Cells
namespace Go.Proofs.Ytgpplekabohneaa.Co
open Go Go.Conc Go.ConcN Go.RowKit Go.Conc.Lib Go.ConcR.Gen Go.ConcN.Gen
open Go.ConcR (KK wgBlock WgAt stA smA rd wr mk DC0)

/-- .. but for one block. -/
def Own.less (O : Own) (b : Nat) : Own := ⟨fun x => O.B x ∧ x ≠ b, fun x o => O.C x o ∧ x ≠ b, fun x => O.X x ∧ x ≠ b⟩
theorem Rely.but {O : Own} {w w₁ : World} (h : Rely O w w₁) (b : Nat) : Rely (O.less b) w w₁ := h.less (fun _ x => x.1) (fun _ _ x => x.1) (fun _ x => x.1)
theorem rely_set (O : Own) (w : World) (a : Addr) (v : Value) : Rely (O.less a.block) w (w.setCell a v) := by
  refine ⟨by simp [World.setCell], rfl, rfl, rfl, fun b hb => ?_, fun b o hb => ?_, Shaped.setCell _ _ _, fun b hb ⟨st, sm, y⟩ => ⟨st, sm, ?_⟩⟩
  · have : ¬ a.block = b := fun e => hb.2 e.symm
    simp [World.setCell, Array.getElem?_modify, this]
  · have : ¬ a.block = b := fun e => hb.2 e.symm
    simp [World.cell?, World.setCell, Array.getElem?_modify, this]
  · have : ¬ a.block = b := fun e => hb.2 e.symm
    simp [World.setCell, Array.getElem?_modify, this, y]

/-- The group stands as it is. -/
def RA (ty : TypeId) (Wg : Nat) (w w₁ : World) : Prop := ∀ st sm, WgAt ty Wg w st sm → WgAt ty Wg w₁ st sm
theorem ra_of {O : Own} {ty : TypeId} {Wg : Nat} (hO : O.B Wg) {w w₁ : World} (h : Rely O w w₁) : RA ty Wg w w₁ := fun st sm hw => by
  unfold WgAt at *
  rw [h.blk Wg hO]
  exact hw

/-- .. and all else that is owned. -/
def RB (O : Own) (ty : TypeId) (Wg : Nat) (w w₁ : World) : Prop := RA ty Wg w w₁ ∧ Rely (O.less Wg) w w₁
theorem rb_rely {O : Own} {ty : TypeId} {Wg : Nat} {st sm : Int} {w0 w w₁ : World} (h : WgAt ty Wg w st sm ∧ Rely (O.less Wg) w0 w) (r : RB O ty Wg w w₁) : WgAt ty Wg w₁ st sm ∧ Rely (O.less Wg) w0 w₁ := ⟨r.1 _ _ h.1, h.2.trans r.2⟩
theorem rb_of {O : Own} {ty : TypeId} {Wg : Nat} (hO : O.B Wg) {w w₁ : World} (h : Rely O w w₁) : RB O ty Wg w w₁ := ⟨ra_of hO h, h.but Wg⟩

theorem dc0_ok {O : Own} {d : Nat} {Ev : Own → Event → Prop} (w w' : World) (es : Array Event) (h : DC0 w w' es) : Guar O O w w' ∧ (∀ e ∈ es, Ev O e) ∧ deafBehind d es = d := by
  obtain ⟨rfl, rfl⟩ := h
  exact ⟨Guar.refl O w', by simp, rfl⟩

section
variable {P : Program} {main : Bool} {Ev : Own → Event → Prop} {Stop : Pos → Prop} {O : Own} {d : Nat} {g g' : Goroutine} {w : World} {es : Array Event}
/-- A step that turns nothing. -/
theorem Run.say (hs : g.status = .running) (h : ∀ w₁, stepG P main g w₁ = .go g' w₁ es) (he : ∀ e ∈ es, Ev O e) (hk : Run P main Ev Stop ⟨O, deafBehind d es, g', w⟩) : Run P main Ev Stop ⟨O, d, g, w⟩ :=
  Run.one hs fun w₁ h₁ => ⟨⟨O, deafBehind d es, g', w₁⟩, ⟨es, h w₁, Guar.refl O w₁, he, rfl⟩, hk.rely h₁⟩

theorem guar_set {a : Addr} (hB : O.B a.block) (w : World) (v : Value) : Guar O O w (w.setCell a v) := by
  refine ⟨by simp [World.setCell], rfl, rfl, rfl, fun _ h => .inl h, fun _ _ h => h, fun _ h => h, fun b _ hn _ => ?_, fun b o _ hn _ => ?_, Shaped.setCell _ _ _⟩
  · have : ¬ a.block = b := fun e => hn (e ▸ hB)
    simp [World.setCell, Array.getElem?_modify, this]
  · have : ¬ a.block = b := fun e => hn (e ▸ hB)
    simp [World.cell?, World.setCell, Array.getElem?_modify, this]

/-- A step that turns one cell of one's own. -/
theorem Run.set {a : Addr} {v : Value} (hs : g.status = .running) (hB : O.B a.block) (h : ∀ w₁, Rely O w w₁ → stepG P main g w₁ = .go g' (w₁.setCell a v) es) (he : ∀ e ∈ es, Ev O e)
    (hk : ∀ w₁, Rely O w w₁ → Run P main Ev Stop ⟨O, deafBehind d es, g', w₁.setCell a v⟩) : Run P main Ev Stop ⟨O, d, g, w⟩ :=
  Run.one hs fun w₁ h₁ => ⟨⟨O, deafBehind d es, g', w₁.setCell a v⟩, ⟨es, h w₁ h₁, guar_set hB w₁ v, he, rfl⟩, hk w₁ h₁⟩
end

/-- What the group's calls say of themselves is let by. -/
structure GEv (Ev : Own → Event → Prop) (Wg : Nat) : Prop where
  dis : ∀ O, Ev O (mk .disable)
  ena : ∀ O, Ev O (mk .enable)
  said : ∀ O, Ev O (mk (.read (smA Wg)))
  rd : ∀ O, Ev O (rd (stA Wg))
  wr : ∀ O, Ev O (wr (stA Wg))

theorem cell1 {ty : TypeId} {Wg : Nat} {w : World} {st sm : Int} (h : WgAt ty Wg w st sm) : w.cell? ⟨Wg, 1, none⟩ = some (.int .u32 sm) := by
  unfold WgAt wgBlock at h
  simp [World.cell?, h]

variable {L : WgLink}

set_option maxRecDepth 100000 in
set_option maxHeartbeats 8000000 in
theorem add_run1 {P : Program} (H : WgLib P L) {Ev : Own → Event → Prop} {Stop : Pos → Prop} {O : Own} {Wg : Nat} (hO : O.B Wg) (hE : GEv Ev Wg) {v : Nat} (hv : v < 2147483647) {w : World} (hF : WgAt L.tWg Wg w ((v : Int) * KK) 0)
    {b₀ : Frame} {a₀ : Act} {ops₀ : Array Oper} {i₀ : Nat} {rest₀ : List Nat} {k₀ : List Item} {cs : List Frame}
    (hk : ∀ w', WgAt L.tWg Wg w' (((v : Int) + 1) * KK) 0 → Rely (O.less Wg) w w' → Run P true Ev Stop ⟨O, 0, G (b₀.at (a₀.put ((ops₀[i₀]?).bind (·.dst)) (.tuple #[])) (.inRegion ops₀ rest₀ :: k₀)) cs, w'⟩) :
    Run P true Ev Stop ⟨O, 0, G ((base L.add).at ⟨#[.pointer (some ⟨Wg, 0, none⟩), .int .i64 1, undef, undef, undef, undef, undef, undef, undef, undef, undef, undef, undef, undef, undef, undef, undef, undef, undef, undef, undef, undef, undef, undef, undef, undef, undef, undef, undef, undef, undef, undef, undef, undef, undef, undef, undef, undef, undef, undef, undef, undef, undef, undef, undef, undef, undef, undef, undef, undef, undef, undef, undef, undef, undef, undef, undef, undef, undef, undef, undef, undef, undef, undef, undef, undef, undef, undef, undef, undef, undef, undef, undef, undef, undef, undef, undef, undef, undef, undef, undef, undef, undef, undef, undef, undef, undef, undef, undef, undef, undef, undef, undef, undef, undef, undef, undef, undef, undef, undef, undef, undef, undef, undef, undef, undef, undef, undef, undef, undef, undef, undef, undef, undef, undef, undef, undef], []⟩ [.code (body_add L)]) (b₀.at a₀ (.inRegion ops₀ (i₀ :: rest₀) :: k₀) :: cs), w⟩ := by
  lib_facts
  simp only [body_add, addFn, Option.getD_some]
  have hF0 := hF
  refine Run.of_goes (R := RB O L.tWg Wg) (D := DC0) (S := fun g w => Run P true Ev Stop ⟨O, 0, g, w⟩) (n := 40) (fun _ _ h => rb_of hO h) dc0_ok (fun _ _ h => h) ?_
  clear hF0
  obtain ⟨w0, hw0⟩ : ∃ w0, w0 = w := ⟨w, rfl⟩
  replace hF : WgAt L.tWg Wg w ((v : Int) * KK) 0 ∧ Rely (O.less Wg) w0 w := ⟨hF, hw0 ▸ Rely.refl _ _⟩
  rw [← hw0] at hk
  clear hw0
  u_c stepG_seq rb_rely hF
  u_cnd true rb_rely hF
  u_c stepG_seq rb_rely hF
  u_c stepG_seq rb_rely hF
  u_reg rb_rely hF
  u_op rb_rely hF
  u_op rb_rely hF
  u_c stepG_region_end rb_rely hF
  u_cnd false rb_rely hF
  u_c stepG_skip rb_rely hF
  u_c stepG_seq rb_rely hF
  u_reg rb_rely hF
  refine Goes.stop (fun w₁ h₁ => ?_)
  replace hF := rb_rely hF h₁
  clear h₁
  refine Run.say rfl (fun w₁ => stepG_mark0 .disable (by simp) rfl rfl (by k_ne) rfl H.f_disable (x_disable_n L) (x_disable_b L) (x_disable_x L) (x_disable_f L)) (by simp; exact hE.dis O) ?_
  refine Run.of_goes (R := RB O L.tWg Wg) (D := DC0) (S := fun g w => Run P true Ev Stop ⟨O, 1, g, w⟩) (n := 60) (fun _ _ h => rb_of hO h) dc0_ok (fun _ _ h => h) ?_
  walk_nrm
  u_c stepG_region_end rb_rely hF
  u_reg rb_rely hF
  u_defer rb_rely hF
  u_c stepG_region_end rb_rely hF
  u_c stepG_seq rb_rely hF
  u_reg rb_rely hF
  u_op rb_rely hF
  u_c stepG_region_end rb_rely hF
  u_c stepG_seq rb_rely hF
  u_c stepG_seq rb_rely hF
  u_reg rb_rely hF
  u_bub rb_rely hF
  u_c stepG_region_end rb_rely hF
  u_cnd false rb_rely hF
  u_c stepG_skip rb_rely hF
  u_c stepG_seq rb_rely hF
  u_reg rb_rely hF
  u_op rb_rely hF
  u_op rb_rely hF
  u_op rb_rely hF
  u_op rb_rely hF
  u_op rb_rely hF
  u_op rb_rely hF
  u_call H.f_uAdd (nm_uAdd L) uAddFn rb_rely hF
  u_c stepG_seq rb_rely hF
  u_reg rb_rely hF
  u_op rb_rely hF
  u_c stepG_region_end rb_rely hF
  u_c stepG_seq rb_rely hF
  u_reg rb_rely hF
  u_op rb_rely hF
  u_op rb_rely hF
  u_op rb_rely hF
  u_op rb_rely hF
  refine Goes.stop (fun w₁ h₁ => ?_)
  replace hF := rb_rely hF h₁
  clear h₁
  rcases Nat.eq_zero_or_pos v with rfl | hvp
  · have e0 : IntKind.u64.wrap (((0 : Nat) : Int) * KK + 4294967296) = 4294967296 := by decide
    refine Run.set (a := stA Wg) (v := .int .u64 4294967296) rfl hO (fun w₂ h₂ => (stepG_add_atomic rfl rfl (by k_ne) rfl H.f_addU64 (x_addU64_n L) (x_addU64_b L) (x_addU64_x L) .u64 (x_addU64_f L) rfl rfl (rb_rely hF (rb_of hO h₂)).1.cellSt ((rb_rely hF (rb_of hO h₂)).1.thaw 0)).trans (by rw [e0])) (by simp; exact ⟨hE.rd O, hE.wr O⟩) (fun w₂ h₂ => ?_)
    replace hF := rb_rely hF (rb_of hO h₂)
    clear h₂
    replace hF : WgAt L.tWg Wg (w₂.setCell (stA Wg) (.int .u64 4294967296)) 4294967296 0 ∧ Rely (O.less Wg) w0 (w₂.setCell (stA Wg) (.int .u64 4294967296)) := ⟨hF.1.setSt _, hF.2.trans (rely_set O w₂ (stA Wg) (.int .u64 4294967296))⟩
    refine Run.of_goes (R := RB O L.tWg Wg) (D := DC0) (S := fun g w => Run P true Ev Stop ⟨O, 1, g, w⟩) (n := 130) (fun _ _ h => rb_of hO h) dc0_ok (fun _ _ h => h) ?_
    walk_nrm
    u_op rb_rely hF
    u_c stepG_region_end rb_rely hF
    u_c stepG_ret' rb_rely hF
    u_leave1 H.f_uAdd rb_rely hF
    u_op rb_rely hF
    u_c stepG_region_end rb_rely hF
    u_c stepG_seq rb_rely hF
    u_c stepG_seq rb_rely hF
    u_reg rb_rely hF
    u_op rb_rely hF
    u_op rb_rely hF
    u_op rb_rely hF
    u_op rb_rely hF
    first | u_skip rb_rely hF | u_op rb_rely hF
    first | u_skip rb_rely hF | u_op rb_rely hF
    u_op rb_rely hF
    u_c stepG_region_end rb_rely hF
    u_cnd false rb_rely hF
    u_c stepG_skip rb_rely hF
    u_c stepG_seq rb_rely hF
    u_reg rb_rely hF
    u_op rb_rely hF
    u_op rb_rely hF
    u_op rb_rely hF
    u_op rb_rely hF
    u_c stepG_region_end rb_rely hF
    u_c stepG_seq rb_rely hF
    u_reg rb_rely hF
    u_op rb_rely hF
    u_op rb_rely hF
    u_op rb_rely hF
    u_op rb_rely hF
    u_c stepG_region_end rb_rely hF
    u_c stepG_seq rb_rely hF
    u_c stepG_seq rb_rely hF
    u_reg rb_rely hF
    u_op rb_rely hF
    first | u_skip rb_rely hF | u_op rb_rely hF
    first | u_skip rb_rely hF | u_op rb_rely hF
    u_op rb_rely hF
    u_op rb_rely hF
    first | u_skip rb_rely hF | u_op rb_rely hF
    first | u_skip rb_rely hF | u_op rb_rely hF
    first | u_skip rb_rely hF | u_op rb_rely hF
    first | u_skip rb_rely hF | u_op rb_rely hF
    u_op rb_rely hF
    u_c stepG_region_end rb_rely hF
    u_cnd true rb_rely hF
    u_reg rb_rely hF
    u_op rb_rely hF
    u_op rb_rely hF
    u_op rb_rely hF
    u_conv H.underlying_tPU32 H.room_tU32 (cell1 hF.1) rb_rely hF
    refine Goes.stop (fun w₁ h₁ => ?_)
    replace hF := rb_rely hF h₁
    clear h₁
    refine Run.say rfl (fun w₁ => stepG_markAt .read (by simp) rfl rfl (by k_ne) rfl H.f_raceRead (x_raceRead_n L) (x_raceRead_b L) (x_raceRead_x L) (x_raceRead_f L) (ad := ⟨Wg, 1, none⟩) (by simp [Act.eval])) (by simp; exact hE.said O) ?_
    refine Run.of_goes (R := RB O L.tWg Wg) (D := DC0) (S := fun g w => Run P true Ev Stop ⟨O, 1, g, w⟩) (n := 130) (fun _ _ h => rb_of hO h) dc0_ok (fun _ _ h => h) ?_
    walk_nrm
    u_c stepG_region_end rb_rely hF
    u_c stepG_seq rb_rely hF
    u_c stepG_seq rb_rely hF
    u_reg rb_rely hF
    u_op rb_rely hF
    u_op rb_rely hF
    u_c stepG_region_end rb_rely hF
    u_cnd false rb_rely hF
    u_c stepG_skip rb_rely hF
    u_c stepG_seq rb_rely hF
    u_c stepG_seq rb_rely hF
    u_reg rb_rely hF
    u_op rb_rely hF
    u_op rb_rely hF
    u_op rb_rely hF
    first | u_skip rb_rely hF | u_op rb_rely hF
    first | u_skip rb_rely hF | u_op rb_rely hF
    u_op rb_rely hF
    u_op rb_rely hF
    first | u_skip rb_rely hF | u_op rb_rely hF
    first | u_skip rb_rely hF | u_op rb_rely hF
    first | u_skip rb_rely hF | u_op rb_rely hF
    first | u_skip rb_rely hF | u_op rb_rely hF
    u_op rb_rely hF
    u_c stepG_region_end rb_rely hF
    u_cnd false rb_rely hF
    u_c stepG_skip rb_rely hF
    u_c stepG_seq rb_rely hF
    u_c stepG_seq rb_rely hF
    u_reg rb_rely hF
    u_op rb_rely hF
    u_op rb_rely hF
    u_op rb_rely hF
    first | u_skip rb_rely hF | u_op rb_rely hF
    first | u_skip rb_rely hF | u_op rb_rely hF
    u_op rb_rely hF
    u_c stepG_region_end rb_rely hF
    u_cnd true rb_rely hF
    u_c stepG_ret' rb_rely hF
    refine Goes.stop (fun w₁ h₁ => ?_)
    replace hF := rb_rely hF h₁
    clear h₁
    refine Run.say rfl (fun w₁ => stepG_unwind_entry (v := .tuple #[]) (evs := #[mk .enable]) rfl H.f_enable (x_enable_n L) (x_enable_b L) (x_enable_x L) (x_enable_f L) (by simp [Extern.Race.none_]) (by simp [mk]) (by simp [mk])) (by simp; exact hE.ena O) ?_
    refine Run.say rfl (fun w₁ => stepG_leave (b := base L.add) rfl rfl H.f_add (results_none rfl _ P w₁) (events_results_none rfl _ _)) (by simp) ?_
    rw [Frame.finish_at]
    exact hk _ (by simpa [KK] using hF.1) hF.2
  · obtain ⟨V, hV⟩ : ∃ V : Int, V = (v : Int) + 1 := ⟨_, rfl⟩
    obtain ⟨S, hS⟩ : ∃ S : Int, S = V * KK := ⟨_, rfl⟩
    rw [← hV, ← hS] at hk
    have eS : IntKind.u64.wrap ((v : Int) * KK + 4294967296) = S := by rw [IntKind.wrap_u64, hS, hV]; simp only [KK]; omega
    have a1 : S / 4294967296 = V := by rw [hS]; simp only [KK]; omega
    have b1 : bits .and .u64 S 2147483648 = 0 := by rw [hS, hV]; have := st_flag (v + 1) 0 (by omega) (by omega); simpa [KK] using this
    have b2 : bits .and .u64 S 2147483647 = 0 := by rw [hS, hV]; have := st_waiters (v + 1) 0 (by omega) (by omega); simpa [KK] using this
    have c1 : IntKind.i32.wrap V = V := by rw [IntKind.wrap_i32]; omega
    have hV1 : 1 < V := by omega
    have hV2 : V < 2147483648 := by omega
    have q1 : (V == 1) = false := by simp; omega
    have q2 : decide (V = 1) = false := decide_eq_false (by omega)
    have q3 : decide (V < 0) = false := decide_eq_false (by omega)
    have q4 : decide (0 < V) = true := decide_eq_true (by omega)
    have q5 : (V == 0) = false := by simp; omega
    have q6 : decide (V = 0) = false := decide_eq_false (by omega)
    refine Run.set (a := stA Wg) (v := .int .u64 S) rfl hO (fun w₂ h₂ => (stepG_add_atomic rfl rfl (by k_ne) rfl H.f_addU64 (x_addU64_n L) (x_addU64_b L) (x_addU64_x L) .u64 (x_addU64_f L) rfl rfl (rb_rely hF (rb_of hO h₂)).1.cellSt ((rb_rely hF (rb_of hO h₂)).1.thaw 0)).trans (by rw [eS])) (by simp; exact ⟨hE.rd O, hE.wr O⟩) (fun w₂ h₂ => ?_)
    replace hF := rb_rely hF (rb_of hO h₂)
    clear h₂
    replace hF : WgAt L.tWg Wg (w₂.setCell (stA Wg) (.int .u64 S)) S 0 ∧ Rely (O.less Wg) w0 (w₂.setCell (stA Wg) (.int .u64 S)) := ⟨hF.1.setSt _, hF.2.trans (rely_set O w₂ (stA Wg) (.int .u64 S))⟩
    clear hS hV eS
    refine Run.of_goes (R := RB O L.tWg Wg) (D := DC0) (S := fun g w => Run P true Ev Stop ⟨O, 1, g, w⟩) (n := 130) (fun _ _ h => rb_of hO h) dc0_ok (fun _ _ h => h) ?_
    walk_nrm
    u_op rb_rely hF
    u_c stepG_region_end rb_rely hF
    u_c stepG_ret' rb_rely hF
    u_leave1 H.f_uAdd rb_rely hF
    u_op rb_rely hF
    u_c stepG_region_end rb_rely hF
    u_c stepG_seq rb_rely hF
    u_c stepG_seq rb_rely hF
    u_reg rb_rely hF
    u_op rb_rely hF
    u_op rb_rely hF
    u_op rb_rely hF
    u_op rb_rely hF
    first | u_skip rb_rely hF | u_op rb_rely hF
    first | u_skip rb_rely hF | u_op rb_rely hF
    u_op rb_rely hF
    u_c stepG_region_end rb_rely hF
    u_cnd false rb_rely hF
    u_c stepG_skip rb_rely hF
    u_c stepG_seq rb_rely hF
    u_reg rb_rely hF
    u_op rb_rely hF
    u_op rb_rely hF
    u_op rb_rely hF
    u_op rb_rely hF
    u_c stepG_region_end rb_rely hF
    u_c stepG_seq rb_rely hF
    u_reg rb_rely hF
    u_op rb_rely hF
    u_op rb_rely hF
    u_op rb_rely hF
    u_op rb_rely hF
    u_c stepG_region_end rb_rely hF
    u_c stepG_seq rb_rely hF
    u_c stepG_seq rb_rely hF
    u_reg rb_rely hF
    u_op rb_rely hF
    first | u_skip rb_rely hF | u_op rb_rely hF
    first | u_skip rb_rely hF | u_op rb_rely hF
    u_op rb_rely hF
    u_op rb_rely hF
    first | u_skip rb_rely hF | u_op rb_rely hF
    first | u_skip rb_rely hF | u_op rb_rely hF
    first | u_skip rb_rely hF | u_op rb_rely hF
    first | u_skip rb_rely hF | u_op rb_rely hF
    u_op rb_rely hF
    u_c stepG_region_end rb_rely hF
    u_cnd false rb_rely hF
    u_c stepG_skip rb_rely hF
    u_c stepG_seq rb_rely hF
    u_c stepG_seq rb_rely hF
    u_reg rb_rely hF
    u_op rb_rely hF
    u_op rb_rely hF
    u_c stepG_region_end rb_rely hF
    u_cnd false rb_rely hF
    u_c stepG_skip rb_rely hF
    u_c stepG_seq rb_rely hF
    u_c stepG_seq rb_rely hF
    u_reg rb_rely hF
    u_op rb_rely hF
    u_op rb_rely hF
    u_op rb_rely hF
    first | u_skip rb_rely hF | u_op rb_rely hF
    first | u_skip rb_rely hF | u_op rb_rely hF
    u_op rb_rely hF
    u_op rb_rely hF
    first | u_skip rb_rely hF | u_op rb_rely hF
    first | u_skip rb_rely hF | u_op rb_rely hF
    first | u_skip rb_rely hF | u_op rb_rely hF
    first | u_skip rb_rely hF | u_op rb_rely hF
    u_op rb_rely hF
    u_c stepG_region_end rb_rely hF
    u_cnd false rb_rely hF
    u_c stepG_skip rb_rely hF
    u_c stepG_seq rb_rely hF
    u_c stepG_seq rb_rely hF
    u_reg rb_rely hF
    u_op rb_rely hF
    u_op rb_rely hF
    u_op rb_rely hF
    first | u_skip rb_rely hF | u_op rb_rely hF
    first | u_skip rb_rely hF | u_op rb_rely hF
    u_op rb_rely hF
    u_c stepG_region_end rb_rely hF
    u_cnd true rb_rely hF
    u_c stepG_ret' rb_rely hF
    refine Goes.stop (fun w₁ h₁ => ?_)
    replace hF := rb_rely hF h₁
    clear h₁
    refine Run.say rfl (fun w₁ => stepG_unwind_entry (v := .tuple #[]) (evs := #[mk .enable]) rfl H.f_enable (x_enable_n L) (x_enable_b L) (x_enable_x L) (x_enable_f L) (by simp [Extern.Race.none_]) (by simp [mk]) (by simp [mk])) (by simp; exact hE.ena O) ?_
    refine Run.say rfl (fun w₁ => stepG_leave (b := base L.add) rfl rfl H.f_add (results_none rfl _ P w₁) (events_results_none rfl _ _)) (by simp) ?_
    rw [Frame.finish_at]
    exact hk _ hF.1 hF.2

end Go.Proofs.Ytgpplekabohneaa.Co

namespace Go.Proofs.Ytgpplekabohneaa.Co
open Go Go.Conc Go.RowKit

section
variable {P : Program} {main : Bool} {Ev : Own → Event → Prop} {Stop : Pos → Prop} {O : Own} {d : Nat} {w : World} {b : Frame} {a : Act} {k : List Item} {cs : List Frame} {ops : Array Oper} {i : Nat} {rest : List Nat} {o : Oper}

/-- The marks that turn one's hearing. -/
def Plainly (e : Event) : Prop := e.loc ≠ .mark .disable ∧ e.loc ≠ .mark .enable

/-- AN OPERATION that yields a value. -/
theorem Run.oper (ho : ops[i]? = some o) (hw : Region.wanted o (yielded ops a.tmps) = true) (hk : b.kind ≠ .early)
    (h : ∀ w₁, Rely O w w₁ → ∃ v w' O', (execOp a.eval o).run P w₁ = .ok (.value v) w' ∧ Guar O O' w₁ w' ∧ (∀ e ∈ (execOp a.eval o).events P w₁ #[], Ev O' e ∧ Plainly e) ∧
      Run P main Ev Stop ⟨O', d, G (b.at (a.put o.dst v) (.inRegion ops rest :: k)) cs, w'⟩) :
    Run P main Ev Stop ⟨O, d, G (b.at a (.inRegion ops (i :: rest) :: k)) cs, w⟩ := by
  refine Run.one rfl fun w₁ h₁ => ?_
  obtain ⟨v, w', O', h1, h2, h3, h4⟩ := h w₁ h₁
  refine ⟨⟨O', d, G (b.at (a.put o.dst v) (.inRegion ops rest :: k)) cs, w'⟩, ⟨_, stepG_value ho hw hk h1, h2, fun e he => (h3 e (mem_seen he)).1, ?_⟩, h4⟩
  exact (deafBehind_still (fun e he => (h3 e (mem_seen he)).2) d).symm

/-- .. that yields nothing. -/
theorem Run.operS (ho : ops[i]? = some o) (hw : Region.wanted o (yielded ops a.tmps) = true) (hk : b.kind ≠ .early)
    (h : ∀ w₁, Rely O w w₁ → ∃ w' O', (execOp a.eval o).run P w₁ = .ok .skip w' ∧ Guar O O' w₁ w' ∧ (∀ e ∈ (execOp a.eval o).events P w₁ #[], Ev O' e ∧ Plainly e) ∧
      Run P main Ev Stop ⟨O', d, G (b.at (a.put o.dst undef) (.inRegion ops rest :: k)) cs, w'⟩) :
    Run P main Ev Stop ⟨O, d, G (b.at a (.inRegion ops (i :: rest) :: k)) cs, w⟩ := by
  refine Run.one rfl fun w₁ h₁ => ?_
  obtain ⟨w', O', h1, h2, h3, h4⟩ := h w₁ h₁
  have hst : stepG P main (G (b.at a (.inRegion ops (i :: rest) :: k)) cs) w₁ = .go (G (b.at (a.put o.dst undef) (.inRegion ops rest :: k)) cs) w' (listed P b.fn a o w₁) := by
    rw [stepG_oper ho hw]
    have hf := Frame.finish_at b a ops i rest k undef
    rw [ho] at hf
    simp only [Option.bind_some] at hf
    have hke : (b.kind == CallKind.early) = false := by cases hb : b.kind <;> simp_all
    simp [stepG.apply, h1, hke, GStep.after, G, listed, Frame.at]
    exact hf
  refine ⟨⟨O', d, G (b.at (a.put o.dst undef) (.inRegion ops rest :: k)) cs, w'⟩, ⟨_, hst, h2, fun e he => (h3 e (mem_seen he)).1, ?_⟩, h4⟩
  exact (deafBehind_still (fun e he => (h3 e (mem_seen he)).2) d).symm

/-- A step that looks at no world. -/
theorem Run.ctl {g g' : Goroutine} (hs : g.status = .running) (h : ∀ w₁, stepG P main g w₁ = .go g' w₁) (hk : Run P main Ev Stop ⟨O, d, g', w⟩) : Run P main Ev Stop ⟨O, d, g, w⟩ :=
  Run.say (es := #[]) hs h (by simp) hk
end

/-! ### blocks that are made, cells that are written -/
def Own.new (O : Own) (n : Nat) : Own := ⟨fun b => O.B b ∨ b = n, O.C, O.X⟩

theorem guar_alloc (O : Own) (w : World) (ob : Obj) : Guar O (O.new w.heap.size) w (w.alloc ob) := by
  have hold : ∀ b, b < w.heap.size → (w.alloc ob).heap[b]? = w.heap[b]? := fun b hb => heap_alloc_old w ob hb
  refine ⟨by simp, rfl, rfl, rfl, ?_, fun _ _ h => h, fun _ h => h, fun b hb _ _ => hold b hb, fun b o hb _ _ => ?_, ?_⟩
  · rintro b (h | rfl)
    · exact .inl h
    · exact .inr ⟨Nat.le_refl _, by simp⟩
  · unfold World.cell?
    dsimp only
    rw [hold b hb]
  · intro b c e f h
    have hb : b < w.heap.size := (Array.getElem?_eq_some_iff.1 h).1
    exact ⟨c, (hold b hb).trans h, rfl⟩

end Go.Proofs.Ytgpplekabohneaa.Co

namespace Go.Proofs.Ytgpplekabohneaa.Co
open Go Go.Conc Go.RowKit

theorem addr_add (g o i : Nat) : (⟨g, o, none⟩ : Addr).add i = ⟨g, o + i, none⟩ := by
  unfold Addr.add
  split
  · rename_i h; subst h; rfl
  · rfl

section
variable {P : Program}

theorem one_not {v : Value} (h : v.oneCell' = true) : (∀ c, v ≠ .agg c) ∧ (∀ c, v ≠ .tuple c) := by
  cases v <;> simp_all [Value.oneCell']

theorem ev_store1 {A : Addr} {v v0 : Value} {w : World} {es : Array Event} (hv : v.oneCell' = true) (hc : w.cell? A = some v0) (hf : w.frozen? A = false) : (store A v).events P w es = es.push ⟨.cell A, true, false⟩ ∧ (store A v).run P w = .ok () (w.setCell A v) := by
  have h1 := one_not hv
  have key : (Sem.store Mode.plain A v (pure ())).runT P w es = (.ok () (w.setCell A v), es.push ⟨.cell A, true, false⟩) := by
    cases v <;> first | exact absurd rfl (h1.1 _) | exact absurd rfl (h1.2 _) | (simp only [Sem.runT, hc, hf]; rfl)
  refine ⟨congrArg Prod.snd key, ?_⟩
  have := congrArg Prod.fst key
  rw [Sem.runT_fst] at this
  exact this

theorem ev_storeCells {g o : Nat} {e : TypeId} : ∀ (vs : List Value) (i : Nat) (cur : Array Value) (w : World) (es : Array Event), w.heap[g]? = some (.cells cur e (0, 0)) → o + i + vs.length ≤ cur.size → (∀ v ∈ vs, v.oneCell' = true) →
    ∀ x ∈ (storeCells ⟨g, o, none⟩ vs i).events P w es, x ∈ es ∨ ∃ j, j < vs.length ∧ x = ⟨.cell ⟨g, o + i + j, none⟩, true, false⟩
  | [], _, _, _, _, _, _, _ => fun x hx => .inl hx
  | v :: rest, i, cur, w, es, hg, hle, hv => by
    intro x hx
    have hlt : o + i < cur.size := by simp only [List.length_cons] at hle; omega
    have hc : w.cell? ⟨g, o + i, none⟩ = some cur[o + i] := by simp [World.cell?, hg, hlt]
    have hf : w.frozen? ⟨g, o + i, none⟩ = false := by simp [World.frozen?, hg]
    have h1 := ev_store1 (P := P) (es := es) (hv v (by simp)) hc hf
    have hadd : (⟨g, o, none⟩ : Addr).add i = ⟨g, o + i, none⟩ := addr_add g o i
    rw [storeCells, Sem.events_bind, hadd, h1.2, h1.1] at hx
    simp only [Result.evThen_ok] at hx
    have hg' : (w.setCell ⟨g, o + i, none⟩ v).heap[g]? = some (.cells (cur.setIfInBounds (o + i) v) e (0, 0)) := by simp [World.setCell, Array.getElem?_modify, hg]
    rcases ev_storeCells rest (i + 1) _ _ _ hg' (by simp only [List.length_cons, Array.size_setIfInBounds] at hle ⊢; omega) (fun y hy => hv y (by simp [hy])) x hx with h | ⟨j, hj, h⟩
    · rcases Array.mem_push.1 h with h | h
      · exact .inl h
      · exact .inr ⟨0, by simp, by rw [h]; rfl⟩
    · exact .inr ⟨j + 1, by simpa using hj, by rw [h, show o + (i + 1) + j = o + i + (j + 1) by omega]⟩

theorem ev_load1 {A : Addr} {v0 : Value} {w : World} {es : Array Event} (hc : w.cell? A = some v0) : (load A).events P w es = es.push ⟨.cell A, false, false⟩ ∧ (load A).run P w = .ok v0 w := by
  have key : (Sem.load Mode.plain A pure).runT P w es = (.ok v0 w, es.push ⟨.cell A, false, false⟩) := by
    simp only [Sem.runT, hc]
    rfl
  refine ⟨congrArg Prod.snd key, ?_⟩
  have := congrArg Prod.fst key
  rw [Sem.runT_fst] at this
  exact this

theorem ev_loadCellsFrom {g o : Nat} {e : TypeId} {f : Nat × Nat} {cur : Array Value} {w : World} (hg : w.heap[g]? = some (.cells cur e f)) : ∀ (n i : Nat) (acc : Array Value) (es : Array Event), o + i + n ≤ cur.size →
    ∀ x ∈ (loadCellsFrom ⟨g, o, none⟩ i n acc).events P w es, x ∈ es ∨ ∃ j, j < n ∧ x = ⟨.cell ⟨g, o + i + j, none⟩, false, false⟩
  | 0, _, _, _, _ => fun x hx => .inl hx
  | n + 1, i, acc, es, hle => by
    intro x hx
    have hlt : o + i < cur.size := by omega
    have hc : w.cell? ⟨g, o + i, none⟩ = some cur[o + i] := by simp [World.cell?, hg, hlt]
    have h1 := ev_load1 (P := P) (es := es) hc
    have hadd : (⟨g, o, none⟩ : Addr).add i = ⟨g, o + i, none⟩ := addr_add g o i
    rw [loadCellsFrom, Sem.events_bind, hadd, h1.2, h1.1] at hx
    simp only [Result.evThen_ok] at hx
    rcases ev_loadCellsFrom hg n (i + 1) _ _ (by omega) x hx with h | ⟨j, hj, h⟩
    · rcases Array.mem_push.1 h with h | h
      · exact .inl h
      · exact .inr ⟨0, by simp, by rw [h]; rfl⟩
    · exact .inr ⟨j + 1, by omega, by rw [h, show o + (i + 1) + j = o + i + (j + 1) by omega]⟩

/-! ### the operations -/
section
variable {a : Act} {o : Oper} {w : World}

theorem op_store {t : TypeId} {x y : Operand} {g off : Nat} {e : TypeId} {vs cur : Array Value} (hop : o.op = .store t x y) (hx : a.eval x = .pointer (some ⟨g, off, none⟩)) (hy : a.eval y = .agg vs) (hsz : ∀ w, (sizeOf t).run P w = .ok vs.size w) (hse : ∀ w es, (sizeOf t).events P w es = es)
    (hg : w.heap[g]? = some (.cells cur e (0, 0))) (hle : off + vs.size ≤ cur.size) (h1 : ∀ v ∈ vs.toList, v.oneCell' = true) :
    (execOp a.eval o).run P w = .ok .skip (w.setRow g (cur.toList.take off ++ vs.toList ++ cur.toList.drop (off + vs.size)).toArray) ∧
    ∀ ev ∈ (execOp a.eval o).events P w #[], ∃ j, j < vs.size ∧ ev = ⟨.cell ⟨g, off + j, none⟩, true, false⟩ := by
  have hst := run_storeCells_at (P := P) g off e vs.toList 0 cur w hg (by simpa using hle) h1
  have hse' := ev_storeCells (P := P) (o := off) vs.toList 0 cur w #[] hg (by simpa using hle) h1
  constructor
  · unfold execOp
    simp only [hop, hx, hy, Instr.storeAt, Instr.sureAddr, storeVar, Value.cells]
    simp [hsz, hst]
  · intro ev hev
    unfold execOp at hev
    simp only [hop, hx, hy, Instr.storeAt, Instr.sureAddr, storeVar, Value.cells] at hev
    simp [hsz, hse] at hev
    rcases hse' ev hev with h | ⟨j, hj, h⟩
    · simp at h
    · exact ⟨j, by simpa using hj, by simpa using h⟩

theorem op_load {t : TypeId} {x : Operand} {g off : Nat} {e : TypeId} {cur : Array Value} {n : Nat} (hop : o.op = .load t x) (hx : a.eval x = .pointer (some ⟨g, off, none⟩)) (hag : ∀ w, (isAgg t).run P w = .ok true w) (hae : ∀ w es, (isAgg t).events P w es = es)
    (hsz : ∀ w, (sizeOf t).run P w = .ok n w) (hse : ∀ w es, (sizeOf t).events P w es = es) (hg : w.heap[g]? = some (.cells cur e (0, 0))) (hle : off + n ≤ cur.size) :
    (execOp a.eval o).run P w = .ok (.value (.agg ((cur.toList.drop off).take n).toArray)) w ∧
    ∀ ev ∈ (execOp a.eval o).events P w #[], ∃ j, j < n ∧ ev = ⟨.cell ⟨g, off + j, none⟩, false, false⟩ := by
  have hld := run_loadCells_list (P := P) w ⟨g, off, none⟩ ((cur.toList.drop off).take n) (fun j v hj => by
    have hj' : j < n := by
      have := (List.getElem?_eq_some_iff.1 hj).1
      simp at this
      omega
    rw [List.getElem?_take_of_lt hj', List.getElem?_drop] at hj
    rw [addr_add]
    simp only [World.cell?, hg]
    simpa using hj)
  have hlen : ((cur.toList.drop off).take n).length = n := by simp; omega
  rw [hlen] at hld
  constructor
  · unfold execOp
    simp only [hop, hx, Instr.loadAt, Instr.sureAddr, loadVar]
    simp [hag, hsz, hld]
  · intro ev hev
    unfold execOp at hev
    simp only [hop, hx, Instr.loadAt, Instr.sureAddr, loadVar] at hev
    simp [hag, hae, hsz, hse] at hev
    rcases ev_loadCellsFrom (P := P) (o := off) hg n 0 #[] #[] (by omega) ev hev with h | ⟨j, hj, h⟩
    · simp at h
    · exact ⟨j, hj, by simpa using h⟩
end
end

/-! ### in company -/
section
variable {P : Program} {main : Bool} {Ev : Own → Event → Prop} {Stop : Pos → Prop} {O : Own} {d : Nat} {w : World} {b : Frame} {a : Act} {k : List Item} {cs : List Frame} {ops : Array Oper} {i : Nat} {rest : List Nat} {o : Oper}

/-- Touches of what is owned are let by, but for blocks of Z. -/
def LetsOwn (Ev : Own → Event → Prop) (Z : Nat → Prop) : Prop := ∀ O A wr, (O.B A.block ∨ O.C A.block A.off) → ¬ Z A.block → Ev O ⟨.cell A, wr, false⟩

theorem Run.storeB {Z : Nat → Prop} (hE : LetsOwn Ev Z) {t : TypeId} {x y : Operand} {g off : Nat} {e : TypeId} {vs cur : Array Value} (ho : ops[i]? = some o) (hw : Region.wanted o (yielded ops a.tmps) = true) (hk : b.kind ≠ .early)
    (hop : o.op = .store t x y) (hx : a.eval x = .pointer (some ⟨g, off, none⟩)) (hy : a.eval y = .agg vs) (hsz : ∀ w, (sizeOf t).run P w = .ok vs.size w) (hse : ∀ w es, (sizeOf t).events P w es = es) (h1 : ∀ v ∈ vs.toList, v.oneCell' = true)
    (hO : O.B g) (hZ : ¬ Z g) (hg : w.heap[g]? = some (.cells cur e (0, 0))) (hle : off + vs.size ≤ cur.size)
    (hn : ∀ w₁, Rely O w w₁ → Run P main Ev Stop ⟨O, d, G (b.at (a.put o.dst undef) (.inRegion ops rest :: k)) cs, w₁.setRow g (cur.toList.take off ++ vs.toList ++ cur.toList.drop (off + vs.size)).toArray⟩) :
    Run P main Ev Stop ⟨O, d, G (b.at a (.inRegion ops (i :: rest) :: k)) cs, w⟩ := by
  refine Run.operS ho hw hk fun w₁ h₁ => ?_
  have hg' : w₁.heap[g]? = some (.cells cur e (0, 0)) := (h₁.blk g hO).trans hg
  obtain ⟨r1, r2⟩ := op_store (P := P) hop hx hy hsz hse hg' hle h1
  refine ⟨_, O, r1, ?_, fun ev hev => ?_, hn w₁ h₁⟩
  · refine ⟨by simp, rfl, rfl, rfl, fun _ h => .inl h, fun _ _ h => h, fun _ h => h, fun b' _ hb _ => setRow_other _ _ _ _ (fun e => hb (e ▸ hO)), fun b' o' _ hb _ => ?_, ?_⟩
    · unfold World.cell?
      dsimp only
      have hne : b' ≠ g := fun e => hb (e ▸ hO)
      rw [setRow_other _ _ _ _ hne]
    · intro n c e' f' hn'
      by_cases hng : n = g
      · subst hng
        rw [hg'] at hn'
        simp only [Option.some.injEq, Obj.cells.injEq] at hn'
        obtain ⟨rfl, rfl, rfl⟩ := hn'
        refine ⟨_, setRow_heap _ _ _ _ _ _ hg', ?_⟩
        simp
        omega
      · exact ⟨c, by rw [setRow_other _ _ _ _ hng]; exact hn', rfl⟩
  · obtain ⟨j, hj, rfl⟩ := r2 ev hev
    exact ⟨hE O _ true (.inl hO) hZ, by simp [Plainly]⟩

theorem Run.storeC {Z : Nat → Prop} (hE : LetsOwn Ev Z) {t : TypeId} {x y : Operand} {g off : Nat} {e : TypeId} {vs : Array Value} {n : Nat} (ho : ops[i]? = some o) (hw : Region.wanted o (yielded ops a.tmps) = true) (hk : b.kind ≠ .early)
    (hop : o.op = .store t x y) (hx : a.eval x = .pointer (some ⟨g, off, none⟩)) (hy : a.eval y = .agg vs) (hsz : ∀ w, (sizeOf t).run P w = .ok vs.size w) (hse : ∀ w es, (sizeOf t).events P w es = es) (h1 : ∀ v ∈ vs.toList, v.oneCell' = true)
    (hO : ∀ j, j < vs.size → O.C g (off + j)) (hZ : ¬ Z g) (hg : ∃ cur : Array Value, w.heap[g]? = some (.cells cur e (0, 0)) ∧ cur.size = n) (hle : off + vs.size ≤ n)
    (hn : ∀ w₁ (cur : Array Value), Rely O w w₁ → w₁.heap[g]? = some (.cells cur e (0, 0)) → cur.size = n → Run P main Ev Stop ⟨O, d, G (b.at (a.put o.dst undef) (.inRegion ops rest :: k)) cs, w₁.setRow g (cur.toList.take off ++ vs.toList ++ cur.toList.drop (off + vs.size)).toArray⟩) :
    Run P main Ev Stop ⟨O, d, G (b.at a (.inRegion ops (i :: rest) :: k)) cs, w⟩ := by
  refine Run.operS ho hw hk fun w₁ h₁ => ?_
  obtain ⟨cur0, hg0, hs0⟩ := hg
  obtain ⟨cur, hg', hs'⟩ := h₁.shape g cur0 e (0, 0) hg0
  have hsz' : cur.size = n := hs'.trans hs0
  obtain ⟨r1, r2⟩ := op_store (P := P) hop hx hy hsz hse hg' (by rw [hsz']; exact hle) h1
  refine ⟨_, O, r1, ?_, fun ev hev => ?_, hn w₁ cur h₁ hg' hsz'⟩
  · refine ⟨by simp, rfl, rfl, rfl, fun _ h => .inl h, fun _ _ h => h, fun _ h => h, fun b' _ hb hc => ?_, fun b' o' _ hb hc => ?_, ?_⟩
    · by_cases hng : b' = g
      · subst hng
        have hz : vs.size = 0 := by
          cases hz : vs.size with
          | zero => rfl
          | succ m => exact absurd (hO 0 (by omega)) (hc _)
        have hv : vs.toList = [] := by
          have : vs.toList.length = 0 := by simpa using hz
          exact List.length_eq_zero_iff.1 this
        rw [setRow_heap _ _ _ _ _ _ hg', hg', hv]
        simp [hz]
      · exact setRow_other _ _ _ _ hng
    · by_cases hng : b' = g
      · subst hng
        rw [cell_setRow_same _ _ _ _ _ _ _ hg']
        have hout : o' < off ∨ off + vs.size ≤ o' := by
          rcases Nat.lt_or_ge o' off with h | h
          · exact .inl h
          · rcases Nat.lt_or_ge o' (off + vs.size) with h2 | h2
            · exact absurd (hO (o' - off) (by omega)) (by rw [show off + (o' - off) = o' by omega]; exact hc)
            · exact .inr h2
        have e1 : w₁.cell? ⟨b', o', none⟩ = cur[o']? := by simp [World.cell?, hg']
        rw [e1]
        simp only [List.getElem?_toArray]
        have hto : off ≤ cur.toList.length := by simp; omega
        rcases hout with h | h
        · rw [List.append_assoc, List.getElem?_append_left (by simp; omega), List.getElem?_take_of_lt h]
          simp
        · rw [List.getElem?_append_right (by simp; omega), List.getElem?_drop]
          simp only [List.length_append, List.length_take, Array.length_toList]
          rw [show off + vs.size + (o' - (min off cur.size + vs.size)) = o' by omega]
          simp
      · unfold World.cell?
        dsimp only
        rw [setRow_other _ _ _ _ hng]
    · intro m c e' f' hn'
      by_cases hng : m = g
      · subst hng
        rw [hg'] at hn'
        simp only [Option.some.injEq, Obj.cells.injEq] at hn'
        obtain ⟨rfl, rfl, rfl⟩ := hn'
        refine ⟨_, setRow_heap _ _ _ _ _ _ hg', ?_⟩
        simp
        omega
      · exact ⟨c, by rw [setRow_other _ _ _ _ hng]; exact hn', rfl⟩
  · obtain ⟨j, hj, rfl⟩ := r2 ev hev
    exact ⟨hE O _ true (.inr (hO j hj)) hZ, by simp [Plainly]⟩

theorem Run.loadB {Z : Nat → Prop} (hE : LetsOwn Ev Z) {t : TypeId} {x : Operand} {g off : Nat} {e : TypeId} {cur : Array Value} {n : Nat} (ho : ops[i]? = some o) (hw : Region.wanted o (yielded ops a.tmps) = true) (hk : b.kind ≠ .early)
    (hop : o.op = .load t x) (hx : a.eval x = .pointer (some ⟨g, off, none⟩)) (hag : ∀ w, (isAgg t).run P w = .ok true w) (hae : ∀ w es, (isAgg t).events P w es = es) (hsz : ∀ w, (sizeOf t).run P w = .ok n w) (hse : ∀ w es, (sizeOf t).events P w es = es)
    (hO : O.B g) (hZ : ¬ Z g) (hg : w.heap[g]? = some (.cells cur e (0, 0))) (hle : off + n ≤ cur.size)
    (hn : Run P main Ev Stop ⟨O, d, G (b.at (a.put o.dst (.agg ((cur.toList.drop off).take n).toArray)) (.inRegion ops rest :: k)) cs, w⟩) :
    Run P main Ev Stop ⟨O, d, G (b.at a (.inRegion ops (i :: rest) :: k)) cs, w⟩ := by
  refine Run.oper ho hw hk fun w₁ h₁ => ?_
  have hg' : w₁.heap[g]? = some (.cells cur e (0, 0)) := (h₁.blk g hO).trans hg
  obtain ⟨r1, r2⟩ := op_load (P := P) hop hx hag hae hsz hse hg' hle
  refine ⟨_, _, O, r1, Guar.refl O w₁, fun ev hev => ?_, hn.rely h₁⟩
  obtain ⟨j, hj, rfl⟩ := r2 ev hev
  exact ⟨hE O _ false (.inl hO) hZ, by simp [Plainly]⟩

/-- One cell. -/
theorem Run.load1 {Z : Nat → Prop} (hE : LetsOwn Ev Z) {t : TypeId} {x : Operand} {g off : Nat} {v : Value} (ho : ops[i]? = some o) (hw : Region.wanted o (yielded ops a.tmps) = true) (hk : b.kind ≠ .early)
    (hop : o.op = .load t x) (hx : a.eval x = .pointer (some ⟨g, off, none⟩)) (hag : ∀ w, (isAgg t).run P w = .ok false w) (hae : ∀ w es, (isAgg t).events P w es = es)
    (hO : O.B g) (hZ : ¬ Z g) (hg : w.cell? ⟨g, off, none⟩ = some v)
    (hn : Run P main Ev Stop ⟨O, d, G (b.at (a.put o.dst v) (.inRegion ops rest :: k)) cs, w⟩) :
    Run P main Ev Stop ⟨O, d, G (b.at a (.inRegion ops (i :: rest) :: k)) cs, w⟩ := by
  refine Run.oper ho hw hk fun w₁ h₁ => ?_
  have hg' : w₁.cell? ⟨g, off, none⟩ = some v := by
    unfold World.cell? at hg ⊢
    dsimp only at hg ⊢
    rw [h₁.blk g hO]
    exact hg
  refine ⟨v, w₁, O, ?_, Guar.refl O w₁, fun ev hev => ?_, hn.rely h₁⟩
  · unfold execOp
    simp only [hop, hx, Instr.loadAt, Instr.sureAddr, loadVar]
    simp [hag, hg']
  · unfold execOp at hev
    simp only [hop, hx, Instr.loadAt, Instr.sureAddr, loadVar] at hev
    simp [hag, hae, hg'] at hev
    subst hev
    exact ⟨hE O _ false (.inl hO) hZ, by simp [Plainly]⟩

/-- A new block. -/
theorem Run.allocB {t : TypeId} {z : Array Value} (ho : ops[i]? = some o) (hw : Region.wanted o (yielded ops a.tmps) = true) (hk : b.kind ≠ .early)
    (hr : ∀ w₁ : World, (execOp a.eval o).run P w₁ = .ok (.value (.pointer (some ⟨w₁.heap.size, 0, none⟩))) (w₁.alloc (.cells z t))) (he : ∀ w₁, (execOp a.eval o).events P w₁ #[] = #[])
    (hn : ∀ w₁, Rely O w w₁ → Run P main Ev Stop ⟨O.new w₁.heap.size, d, G (b.at (a.put o.dst (.pointer (some ⟨w₁.heap.size, 0, none⟩))) (.inRegion ops rest :: k)) cs, w₁.alloc (.cells z t)⟩) :
    Run P main Ev Stop ⟨O, d, G (b.at a (.inRegion ops (i :: rest) :: k)) cs, w⟩ := by
  refine Run.oper ho hw hk fun w₁ h₁ => ⟨_, _, _, hr w₁, guar_alloc O w₁ _, fun ev hev => ?_, hn w₁ h₁⟩
  rw [he] at hev
  simp at hev
end

end Go.Proofs.Ytgpplekabohneaa.Co
