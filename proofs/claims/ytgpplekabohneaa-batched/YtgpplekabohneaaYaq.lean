/- The starter: a packet of nobody's. · The starter: a packet of a tenant's: its queue is looked up; it is there. · The starter: it sends its packet; on to the next. -/
import Derived.Test.YtgpplekabohneaaYap
namespace Go.Proofs.Ytgpplekabohneaa.Co
open Go Go.Conc Go.RowKit Go.ConcR.Gen Go.ConcN.Gen
open Go.ConcR (DC0)

theorem op_store1 {P : Program} {a : Act} {o : Oper} {w : World} {t : TypeId} {x y : Operand} {g off : Nat} {e : TypeId} {v : Value} {cur : Array Value} (hop : o.op = .store t x y) (hx : a.eval x = .pointer (some ⟨g, off, none⟩)) (hy : a.eval y = v) (hv : v.cells = #[v]) (hsz : ∀ w, (sizeOf t).run P w = .ok 1 w) (hse : ∀ w es, (sizeOf t).events P w es = es)
    (hg : w.heap[g]? = some (.cells cur e (0, 0))) (hle : off + 1 ≤ cur.size) (h1 : v.oneCell' = true) :
    (execOp a.eval o).run P w = .ok .skip (w.setRow g (cur.toList.take off ++ [v] ++ cur.toList.drop (off + 1)).toArray) ∧
    ∀ ev ∈ (execOp a.eval o).events P w #[], ev = ⟨.cell ⟨g, off, none⟩, true, false⟩ := by
  have hst := run_storeCells_at (P := P) g off e [v] 0 cur w hg (by simpa using hle) (by simpa using h1)
  have hse' := ev_storeCells (P := P) (o := off) [v] 0 cur w #[] hg (by simpa using hle) (by simpa using h1)
  constructor
  · unfold execOp
    simp only [hop, hx, hy, Instr.storeAt, Instr.sureAddr, storeVar, hv]
    have hst2 : (storeCells ⟨g, off, none⟩ [v]).run P w = .ok () (w.setRow g (List.take off cur.toList ++ v :: List.drop (off + 1) cur.toList).toArray) := by simpa using hst
    simp [hsz, hst2]
  · intro ev hev
    unfold execOp at hev
    simp only [hop, hx, hy, Instr.storeAt, Instr.sureAddr, storeVar, hv] at hev
    simp [hsz, hse] at hev
    rcases hse' ev (by simpa using hev) with h | ⟨j, hj, h⟩
    · simp at h
    · have : j = 0 := by simpa using hj
      subst this
      simpa using h

theorem Run.store1C {P : Program} {main : Bool} {Ev : Own → Event → Prop} {Stop : Pos → Prop} {O : Own} {d : Nat} {w : World} {b : Frame} {a : Act} {k : List Item} {cs : List Frame} {ops : Array Oper} {i : Nat} {rest : List Nat} {o : Oper}
    {Z : Nat → Prop} (hE : LetsOwn Ev Z) {t : TypeId} {x y : Operand} {g off : Nat} {e : TypeId} {v : Value} {n : Nat} (ho : ops[i]? = some o) (hw : Region.wanted o (yielded ops a.tmps) = true) (hk : b.kind ≠ .early)
    (hop : o.op = .store t x y) (hx : a.eval x = .pointer (some ⟨g, off, none⟩)) (hy : a.eval y = v) (hv : v.cells = #[v]) (hsz : ∀ w, (sizeOf t).run P w = .ok 1 w) (hse : ∀ w es, (sizeOf t).events P w es = es) (h1 : v.oneCell' = true)
    (hO : O.C g off) (hZ : ¬ Z g) (hg : ∃ cur : Array Value, w.heap[g]? = some (.cells cur e (0, 0)) ∧ cur.size = n) (hle : off + 1 ≤ n)
    (hn : ∀ w₁ w' : World, Rely O w w₁ → w'.cell? ⟨g, off, none⟩ = some v → (∀ o', o' ≠ off → w'.cell? ⟨g, o', none⟩ = w₁.cell? ⟨g, o', none⟩) → (∀ b', b' ≠ g → w'.heap[b']? = w₁.heap[b']?) → w'.heap.size = w₁.heap.size → (w'.os = w₁.os ∧ w'.output = w₁.output) → (∃ cur : Array Value, w'.heap[g]? = some (.cells cur e (0, 0)) ∧ cur.size = n) → Run P main Ev Stop ⟨O, d, G (b.at (a.put o.dst undef) (.inRegion ops rest :: k)) cs, w'⟩) :
    Run P main Ev Stop ⟨O, d, G (b.at a (.inRegion ops (i :: rest) :: k)) cs, w⟩ := by
  refine Run.operS ho hw hk fun w₁ h₁ => ?_
  obtain ⟨cur0, hg0, hs0⟩ := hg
  obtain ⟨cur, hg', hs'⟩ := h₁.shape g cur0 e (0, 0) hg0
  have hsz' : cur.size = n := hs'.trans hs0
  obtain ⟨r1, r2⟩ := op_store1 (P := P) hop hx hy hv hsz hse hg' (by rw [hsz']; exact hle) h1
  have hcell : ∀ o', (w₁.setRow g (cur.toList.take off ++ [v] ++ cur.toList.drop (off + 1)).toArray).cell? ⟨g, o', none⟩ = if o' = off then some v else w₁.cell? ⟨g, o', none⟩ := by
    intro o'
    rw [cell_setRow_same _ _ _ _ _ _ _ hg']
    have e1 : w₁.cell? ⟨g, o', none⟩ = cur[o']? := by simp [World.cell?, hg']
    have hto : (cur.toList.take off).length = off := by simp; omega
    simp only [List.getElem?_toArray, e1]
    rcases Nat.lt_trichotomy o' off with h | h | h
    · rw [if_neg (by omega), List.append_assoc, List.getElem?_append_left (by rw [hto]; exact h), List.getElem?_take_of_lt h, Array.getElem?_toList]
    · subst h
      rw [if_pos rfl, List.append_assoc, List.getElem?_append_right (by rw [hto]; omega), hto]
      simp
    · rw [if_neg (by omega), List.getElem?_append_right (by rw [List.length_append, hto]; simp; omega), List.length_append, hto, List.getElem?_drop, List.length_singleton, show off + 1 + (o' - (off + 1)) = o' by omega, Array.getElem?_toList]
  have hrow : (w₁.setRow g (cur.toList.take off ++ [v] ++ cur.toList.drop (off + 1)).toArray).heap[g]? = some (.cells (cur.toList.take off ++ [v] ++ cur.toList.drop (off + 1)).toArray e (0, 0)) := setRow_heap _ _ _ _ _ _ hg'
  have hrs : (cur.toList.take off ++ [v] ++ cur.toList.drop (off + 1)).toArray.size = cur.size := by simp; omega
  refine ⟨_, O, r1, ?_, fun ev hev => ?_, hn w₁ _ h₁ (by rw [hcell]; simp) (fun o' ho' => by rw [hcell, if_neg ho']) (fun b' hb' => setRow_other _ _ _ _ hb') (by simp) ⟨rfl, rfl⟩ ⟨_, hrow, hrs.trans hsz'⟩⟩
  · refine ⟨by simp, rfl, rfl, rfl, fun _ h => .inl h, fun _ _ h => h, fun _ h => h, fun b' _ hb hc => setRow_other _ _ _ _ (by rintro rfl; exact hc off hO), fun b' o' _ hb hc => ?_, ?_⟩
    · by_cases hng : b' = g
      · subst hng
        rw [hcell, if_neg (by rintro rfl; exact hc hO)]
      · unfold World.cell?
        dsimp only
        rw [setRow_other _ _ _ _ hng]
    · intro q c e' f' hn'
      by_cases hng : q = g
      · subst hng
        rw [hg'] at hn'
        simp only [Option.some.injEq, Obj.cells.injEq] at hn'
        obtain ⟨rfl, rfl, rfl⟩ := hn'
        exact ⟨_, hrow, hrs⟩
      · exact ⟨c, by rw [setRow_other _ _ _ _ hng]; exact hn', rfl⟩
  · obtain rfl := r2 ev hev
    exact ⟨hE O _ true (.inr hO) hZ, by simp [Plainly]⟩

set_option maxRecDepth 100000 in
set_option maxHeartbeats 4000000 in
/-- NOBODY's PACKET: its verdict is laid down; on to the next. -/
theorem at8_none (m : MS) (cs : List Frame) (i : Nat) (j : Nat → Value) {Ev : Own → Event → Prop} {Z : Nat → Prop} (hE : LetsOwn Ev Z) {Stop : Pos → Prop} {O O' : Own} {w : World} (h8 : j 8 = .int .i64 i) (h11 : j 11 = .bool false) (hi : i < m.N) (hiN : (m.N : Int) < 9223372036854775807) (hC : O.C m.rs (i * 16 + 15)) (hZ : ¬ Z m.rs) (hrow : RowAt w m.rs m.N)
    (hB' : ∀ b, O'.B b → O.B b) (hC' : ∀ b o, O'.C b o → O.C b o) (hX' : ∀ b, O'.X b → O.X b)
    (hk : ∀ W' w₁ j', Rely O w w₁ → W'.cell? ⟨m.rs, i * 16 + 15, none⟩ = some (.int .i64 1) → (∀ o', o' ≠ i * 16 + 15 → W'.cell? ⟨m.rs, o', none⟩ = w₁.cell? ⟨m.rs, o', none⟩) → (∀ b', b' ≠ m.rs → W'.heap[b']? = w₁.heap[b']?) → W'.heap.size = w₁.heap.size → (W'.os = w₁.os ∧ W'.output = w₁.output) → RowAt W' m.rs m.N → Run Try.prog true Ev Stop ⟨O', 0, m.head cs (i + 1) j', W'⟩) :
    Run Try.prog true Ev Stop ⟨O, 0, m.at8 cs i j, w⟩ := by
  unfold MS.at8
  unfold MS.head at hk
  simp only [mLoop, firstLoop, mRest, behind, code7, code17, restOf, Try.f32, Option.getD_some, MS.tmps, MS.ps, MS.sl, h8, h11] at hk ⊢
  have hF : Rely O w w := Rely.refl _ _
  refine Run.of_goes (R := Rely O) (D := DC0) (S := fun g x => Run Try.prog true Ev Stop ⟨O, 0, g, x⟩) (n := 40) (fun _ _ h => h) dc0_ok (fun _ _ h => h) ?_
  u_c stepG_seq rl_trans hF
  u_c stepG_seq rl_trans hF
  u_reg rl_trans hF
  u_op rl_trans hF
  u_op rl_trans hF
  u_c stepG_region_end rl_trans hF
  u_cnd true rl_trans hF
  u_c stepG_seq rl_trans hF
  u_reg rl_trans hF
  u_op rl_trans hF
  u_op rl_trans hF
  u_op rl_trans hF
  u_op rl_trans hF
  refine Goes.stop (fun w₁ h₁ => ?_)
  replace hF := rl_trans hF h₁
  clear h₁

  have hrow1 : RowAt w₁ m.rs m.N := by
    obtain ⟨cur, e1, e2⟩ := hrow
    obtain ⟨c1, e3, e4⟩ := hF.shape _ _ _ _ e1
    exact ⟨c1, e3, e4.trans e2⟩
  refine Run.store1C (g := m.rs) (off := i * 16 + 15) (e := 62) (v := .int .i64 1) (n := 16 * m.N) hE rfl rfl (by k_ne) rfl rfl rfl rfl Try.sizeOf40 (ev_size 40) rfl hC hZ hrow1 (by omega) (fun w₂ W' h₂ c1 c2 c3 c4 c6 c5 => ?_)
  have hR2 : Rely O w w₂ := hF.trans h₂
  clear hF
  have hci : ((i + 1 : Nat) : Int) = (i : Int) + 1 := rfl
  have hwr : IntKind.i64.wrap ((i : Int) + 1) = (i : Int) + 1 := by rw [IntKind.wrap_i64]; omega
  refine Run.ctl rfl (fun _ => stepG_region_end) ?_
  refine Run.ctl rfl (fun _ => stepG_exit rfl) ?_
  have hF : Rely O W' W' := Rely.refl _ _
  refine Run.of_goes (R := Rely O) (D := DC0) (S := fun g x => Run Try.prog true Ev Stop ⟨O, 0, g, x⟩) (n := 20) (fun _ _ h => h) dc0_ok (fun _ _ h => h) ?_
  try walk_nrm
  u_reg rl_trans hF
  u_op rl_trans hF
  u_op rl_trans hF
  u_c stepG_region_end rl_trans hF
  refine Goes.stop (fun w₁ h₁ => ?_)
  replace hF := rl_trans hF h₁
  clear h₁

  refine Run.ctlO (O' := O') hB' hC' hX' rfl (fun _ => stepG_inLoop) ?_
  have hk2 := fun (x2 x3 x8 x9 x10 x11 x12 x13 x14 x15 x16 x17 x18 x22 x23 x24 x25 x26 x27 x28 x29 x30 x31 x32 x33 x34 x35 x36 x37 x38 x39 x40 x41 x42 x43 x44 x45 x46 x47 x48 x49 x50 x51 x52 x53 x54 x55 x56 x57 x58 x59 x60 x61 x62 x63 x64 x65 x66 x67 x68 x69 x70 x71 x72 x73 : Value) => (hk W' w₂ (fun n => match n with | 2 => x2 | 3 => x3 | 8 => x8 | 9 => x9 | 10 => x10 | 11 => x11 | 12 => x12 | 13 => x13 | 14 => x14 | 15 => x15 | 16 => x16 | 17 => x17 | 18 => x18 | 22 => x22 | 23 => x23 | 24 => x24 | 25 => x25 | 26 => x26 | 27 => x27 | 28 => x28 | 29 => x29 | 30 => x30 | 31 => x31 | 32 => x32 | 33 => x33 | 34 => x34 | 35 => x35 | 36 => x36 | 37 => x37 | 38 => x38 | 39 => x39 | 40 => x40 | 41 => x41 | 42 => x42 | 43 => x43 | 44 => x44 | 45 => x45 | 46 => x46 | 47 => x47 | 48 => x48 | 49 => x49 | 50 => x50 | 51 => x51 | 52 => x52 | 53 => x53 | 54 => x54 | 55 => x55 | 56 => x56 | 57 => x57 | 58 => x58 | 59 => x59 | 60 => x60 | 61 => x61 | 62 => x62 | 63 => x63 | 64 => x64 | 65 => x65 | 66 => x66 | 67 => x67 | 68 => x68 | 69 => x69 | 70 => x70 | 71 => x71 | 72 => x72 | 73 => x73 | _ => undef) hR2 c1 c2 c3 c4 c6 c5).rely (hF.less hB' hC' hX')
  simp only [hci] at hk2
  exact hk2 _ _ _ _ _ _ _ _ _ _ _ _ _ _ _ _ _ _ _ _ _ _ _ _ _ _ _ _ _ _ _ _ _ _ _ _ _ _ _ _ _ _ _ _ _ _ _ _ _ _ _ _ _ _ _ _ _ _ _ _ _ _ _ _ _

end Go.Proofs.Ytgpplekabohneaa.Co

namespace Go.Proofs.Ytgpplekabohneaa.Co
open Go Go.Conc Go.RowKit Go.ConcR.Gen Go.ConcN.Gen
open Go.ConcR (DC0)

theorem ev_look15 {w : World} {r : Nat} {es : Array MapEntry} {c : Nat} {k : Int} (h : w.heap[r]? = some (.map es c)) (hk : ∀ e ∈ es.toList, ∃ n : Int, e.key = .int .i64 n) : (Instr.lookup 115 (.map (some r)) (.int .i64 k) true).events Try.prog w #[] = #[⟨.obj r, false, false⟩] := by
  have hd : MapKept.IsKey (.int .i64) (.int .i64 k) := rfl
  rcases MapKept.findNow_spec hd es.toList 0 (fun x hx => by obtain ⟨b, hb⟩ := hk x hx; rw [hb]; rfl) with ⟨h1, _⟩ | ⟨j, e, h1, h2, h3⟩
  · unfold Instr.lookup
    simp [run_underlying Try.underlying115, MapKept.run_getObj_map h, ev_getObj_map h, MapKept.run_checkKey Try.underlying3 hd, MapKept.run_findKey Try.underlying3 h1, ev_checkKey, ev_findKey h1]
  · unfold Instr.lookup
    simp [run_underlying Try.underlying115, MapKept.run_getObj_map h, ev_getObj_map h, MapKept.run_checkKey Try.underlying3 hd, MapKept.run_findKey Try.underlying3 h1, ev_checkKey, ev_findKey h1]
theorem run_look15_none (w : World) (r : Nat) (es : Array MapEntry) (clock : Nat) (k : Int) (hr : w.heap[r]? = some (.map es clock)) (hk : ∀ e ∈ es.toList, ∃ b, e.key = .int .i64 b ∧ b ≠ k) :
    (Instr.lookup 115 (.map (some r)) (.int .i64 k) true).run Try.prog w = .ok (.tuple #[.chan none, .bool false]) w := by
  have hd : MapKept.IsKey (.int .i64) (.int .i64 k) := rfl
  rcases MapKept.findNow_spec hd es.toList 0 (fun x hx => by obtain ⟨b, hb, _⟩ := hk x hx; rw [hb]; rfl) with ⟨h1, _⟩ | ⟨j, e, h1, h2, h3⟩
  · simp [Instr.lookup, run_underlying Try.underlying115, MapKept.run_getObj_map hr, MapKept.run_checkKey Try.underlying3 hd, MapKept.run_findKey Try.underlying3 h1, Try.zeroValue126, Result.andThen]
  · obtain ⟨b, hb, hne⟩ := hk e (List.mem_of_getElem? h2)
    exact absurd (show b = k by have := hb.symm.trans h3; simpa using this) hne
theorem run_look15_some (w : World) (r : Nat) (es : Array MapEntry) (clock : Nat) (k : Int) (hr : w.heap[r]? = some (.map es clock)) (hk : ∀ e ∈ es.toList, ∃ b, e.key = .int .i64 b) (hin : ∃ e ∈ es.toList, e.key = .int .i64 k) :
    ∃ e ∈ es.toList, e.key = .int .i64 k ∧ (Instr.lookup 115 (.map (some r)) (.int .i64 k) true).run Try.prog w = .ok (.tuple #[e.val, .bool true]) w := by
  have hd : MapKept.IsKey (.int .i64) (.int .i64 k) := rfl
  rcases MapKept.findNow_spec hd es.toList 0 (fun x hx => by obtain ⟨b, hb⟩ := hk x hx; rw [hb]; rfl) with ⟨h1, h2⟩ | ⟨j, e, h1, h2, h3⟩
  · obtain ⟨e, he, hek⟩ := hin
    exact absurd hek (h2 e he)
  · refine ⟨e, List.mem_of_getElem? h2, h3, ?_⟩
    simp [Instr.lookup, run_underlying Try.underlying115, MapKept.run_getObj_map hr, MapKept.run_checkKey Try.underlying3 hd, MapKept.run_findKey Try.underlying3 h1, Result.andThen]

theorem op_lookup {P : Program} {a : Act} {o : Oper} {t : TypeId} {x y : Operand} {ok : Bool} {vx vy v : Value} {w w' : World} (hop : o.op = .lookup t x y ok) (hx : a.eval x = vx) (hy : a.eval y = vy) (h : (Instr.lookup t vx vy ok).run P w = .ok v w') :
    (execOp a.eval o).run P w = .ok (.value v) w' ∧ (execOp a.eval o).events P w #[] = (Instr.lookup t vx vy ok).events P w #[] := by
  unfold execOp
  simp only [hop, hx, hy]
  simp [h]

/-- A read of a map that is owned. -/
def LetsObj (Ev : Own → Event → Prop) (Z : Nat → Prop) : Prop := ∀ O b wr, O.B b → ¬ Z b → Ev O ⟨.obj b, wr, false⟩

/-- Where the packet is sent. -/
def code16 (F : Func := Try.f32) : Code := restOf (restOf (restOf (restOf (code7 (mLoop F)))))
def code11 (F : Func := Try.f32) : Code := restOf (restOf (restOf (code7 (mLoop F))))
def MS.at16 (m : MS) (cs : List Frame) (i : Nat) (j : Nat → Value) (F : Func := Try.f32) : Goroutine := G ((base 32).at ⟨m.tmps i j, []⟩ [.code (code16 F), .inBlock 1, .code (code17 (mLoop F)), .inLoop (mLoop F), .inBlock 0, .code (mRest F)]) cs
def MS.at11 (m : MS) (cs : List Frame) (i : Nat) (j : Nat → Value) (F : Func := Try.f32) : Goroutine := G ((base 32).at ⟨m.tmps i j, []⟩ [.code (code11 F), .inBlock 1, .code (code17 (mLoop F)), .inLoop (mLoop F), .inBlock 0, .code (mRest F)]) cs

set_option maxRecDepth 100000 in
set_option maxHeartbeats 4000000 in
/-- THE QUEUE IS LOOKED UP. -/
theorem at8_some (m : MS) (cs : List Frame) (i : Nat) (j : Nat → Value) {Ev : Own → Event → Prop} {Z : Nat → Prop} (hE : LetsOwn Ev Z) (hEo : LetsObj Ev Z) {Stop : Pos → Prop} {O : Own} {w : World} {n9 : Nat} {p : Pk} {v10 qv : Value} {ok : Bool} (h8 : j 8 = .int .i64 i) (h9 : j 9 = .pointer (some ⟨n9, 0, none⟩)) (h10 : j 10 = v10) (h11 : j 11 = .bool true)
    (hO9 : O.B n9) (hOq : O.B m.q) (hZ9 : ¬ Z n9) (hZq : ¬ Z m.q) (hn9 : w.heap[n9]? = some (.cells (pkC p) 38 (0, 0))) {es : Array MapEntry} {c : Nat} (hq : w.heap[m.q]? = some (.map es c)) (hk : ∀ e ∈ es.toList, ∃ n : Int, e.key = .int .i64 n)
    (hlook : ∀ w₁ : World, w₁.heap[m.q]? = some (.map es c) → (Instr.lookup 115 (.map (some m.q)) (.int .i64 p.tag) true).run Try.prog w₁ = .ok (.tuple #[qv, .bool ok]) w₁)
    (hn : ∀ w₁ j', j' 8 = .int .i64 i → j' 9 = .pointer (some ⟨n9, 0, none⟩) → j' 10 = v10 → j' 11 = .bool ok → j' 12 = qv → Rely O w w₁ → Run Try.prog true Ev Stop ⟨O, 0, m.at11 cs i j', w₁⟩) :
    Run Try.prog true Ev Stop ⟨O, 0, m.at8 cs i j, w⟩ := by
  unfold MS.at8
  unfold MS.at11 at hn
  simp only [code11, mLoop, firstLoop, mRest, behind, code7, code17, restOf, Try.f32, Option.getD_some, MS.tmps, MS.ps, MS.sl, h8, h9, h10, h11] at hn ⊢
  have hF : Rely O w w := Rely.refl _ _
  refine Run.of_goes (R := Rely O) (D := DC0) (S := fun g x => Run Try.prog true Ev Stop ⟨O, 0, g, x⟩) (n := 40) (fun _ _ h => h) dc0_ok (fun _ _ h => h) ?_
  u_c stepG_seq rl_trans hF
  u_c stepG_seq rl_trans hF
  u_reg rl_trans hF
  u_op rl_trans hF
  u_op rl_trans hF
  u_c stepG_region_end rl_trans hF
  u_cnd false rl_trans hF
  u_c stepG_skip rl_trans hF
  u_c stepG_seq rl_trans hF
  u_reg rl_trans hF
  u_op rl_trans hF
  u_op rl_trans hF
  refine Goes.stop (fun w₁ h₁ => ?_)
  replace hF := rl_trans hF h₁
  clear h₁

  have hb9 := (hF.blk n9 hO9).trans hn9
  refine Run.load1 (g := n9) (off := 0) (v := .int .i64 p.tag) hE rfl rfl (by k_ne) rfl rfl Try.isAgg3 (ev_agg 3) hO9 hZ9 (by rw [cell_at hb9]; rfl) ?_
  try walk_nrm
  refine Run.oper rfl rfl (by k_ne) fun w₂ h₂ => ?_
  have hR2 := hF.trans h₂
  have hq2 := (hR2.blk m.q hOq).trans hq
  refine ⟨.tuple #[qv, .bool ok], w₂, O, ?_, Guar.refl O w₂, fun e he => ?_, ?_⟩
  · exact (op_lookup (vx := .map (some m.q)) (vy := .int .i64 p.tag) rfl rfl rfl (hlook w₂ hq2)).1
  · rw [(op_lookup (vx := .map (some m.q)) (vy := .int .i64 p.tag) rfl rfl rfl (hlook w₂ hq2)).2, ev_look15 hq2 hk] at he
    simp only [List.mem_toArray, List.mem_singleton] at he
    subst he
    exact ⟨hEo O m.q false hOq hZq, by simp [Plainly]⟩
  clear hF
  have hF : Rely O w w₂ := hR2
  refine Run.of_goes (R := Rely O) (D := DC0) (S := fun g x => Run Try.prog true Ev Stop ⟨O, 0, g, x⟩) (n := 40) (fun _ _ h => h) dc0_ok (fun _ _ h => h) ?_
  try walk_nrm
  u_op rl_trans hF
  u_op rl_trans hF
  u_op rl_trans hF
  u_op rl_trans hF
  u_op rl_trans hF
  u_c stepG_region_end rl_trans hF
  refine Goes.stop (fun w₁ h₁ => ?_)
  replace hF := rl_trans hF h₁
  clear h₁

  have hk2 := fun (x2 x3 x8 x9 x10 x11 x12 x13 x14 x15 x16 x17 x18 x22 x23 x24 x25 x26 x27 x28 x29 x30 x31 x32 x33 x34 x35 x36 x37 x38 x39 x40 x41 x42 x43 x44 x45 x46 x47 x48 x49 x50 x51 x52 x53 x54 x55 x56 x57 x58 x59 x60 x61 x62 x63 x64 x65 x66 x67 x68 x69 x70 x71 x72 x73 : Value) (e8 : x8 = .int .i64 i) (e9 : x9 = .pointer (some ⟨n9, 0, none⟩)) (e10 : x10 = v10) (e11 : x11 = .bool ok) (e12 : x12 = qv) => (hn w₁ (fun n => match n with | 2 => x2 | 3 => x3 | 8 => x8 | 9 => x9 | 10 => x10 | 11 => x11 | 12 => x12 | 13 => x13 | 14 => x14 | 15 => x15 | 16 => x16 | 17 => x17 | 18 => x18 | 22 => x22 | 23 => x23 | 24 => x24 | 25 => x25 | 26 => x26 | 27 => x27 | 28 => x28 | 29 => x29 | 30 => x30 | 31 => x31 | 32 => x32 | 33 => x33 | 34 => x34 | 35 => x35 | 36 => x36 | 37 => x37 | 38 => x38 | 39 => x39 | 40 => x40 | 41 => x41 | 42 => x42 | 43 => x43 | 44 => x44 | 45 => x45 | 46 => x46 | 47 => x47 | 48 => x48 | 49 => x49 | 50 => x50 | 51 => x51 | 52 => x52 | 53 => x53 | 54 => x54 | 55 => x55 | 56 => x56 | 57 => x57 | 58 => x58 | 59 => x59 | 60 => x60 | 61 => x61 | 62 => x62 | 63 => x63 | 64 => x64 | 65 => x65 | 66 => x66 | 67 => x67 | 68 => x68 | 69 => x69 | 70 => x70 | 71 => x71 | 72 => x72 | 73 => x73 | _ => undef) e8 e9 e10 e11 e12 hF)
  exact hk2 _ _ _ _ _ _ _ _ _ _ _ _ _ _ _ _ _ _ _ _ _ _ _ _ _ _ _ _ _ _ _ _ _ _ _ _ _ _ _ _ _ _ _ _ _ _ _ _ _ _ _ _ _ _ _ _ _ _ _ _ _ _ _ _ _ rfl rfl rfl rfl rfl

set_option maxRecDepth 100000 in
set_option maxHeartbeats 4000000 in
/-- IT IS THERE. -/
theorem at11_there (m : MS) (cs : List Frame) (i : Nat) (j : Nat → Value) {Ev : Own → Event → Prop} {Stop : Pos → Prop} {O : Own} {w : World} {v9 v12 : Value} (h8 : j 8 = .int .i64 i) (h9 : j 9 = v9) (h11 : j 11 = .bool true) (h12 : j 12 = v12)
    (hn : ∀ w₁ j', j' 8 = .int .i64 i → j' 9 = v9 → j' 12 = v12 → Rely O w w₁ → Run Try.prog true Ev Stop ⟨O, 0, m.at16 cs i j', w₁⟩) :
    Run Try.prog true Ev Stop ⟨O, 0, m.at11 cs i j, w⟩ := by
  unfold MS.at11
  unfold MS.at16 at hn
  simp only [code11, code16, mLoop, firstLoop, mRest, behind, code7, code17, restOf, Try.f32, Option.getD_some, MS.tmps, MS.ps, MS.sl, h8, h9, h11, h12] at hn ⊢
  have hF : Rely O w w := Rely.refl _ _
  refine Run.of_goes (R := Rely O) (D := DC0) (S := fun g x => Run Try.prog true Ev Stop ⟨O, 0, g, x⟩) (n := 40) (fun _ _ h => h) dc0_ok (fun _ _ h => h) ?_
  u_c stepG_seq rl_trans hF
  u_c stepG_seq rl_trans hF
  u_reg rl_trans hF
  u_op rl_trans hF
  u_op rl_trans hF
  u_c stepG_region_end rl_trans hF
  u_cnd false rl_trans hF
  u_c stepG_skip rl_trans hF
  refine Goes.stop (fun w₁ h₁ => ?_)
  replace hF := rl_trans hF h₁
  clear h₁

  have hk2 := fun (x2 x3 x8 x9 x10 x11 x12 x13 x14 x15 x16 x17 x18 x22 x23 x24 x25 x26 x27 x28 x29 x30 x31 x32 x33 x34 x35 x36 x37 x38 x39 x40 x41 x42 x43 x44 x45 x46 x47 x48 x49 x50 x51 x52 x53 x54 x55 x56 x57 x58 x59 x60 x61 x62 x63 x64 x65 x66 x67 x68 x69 x70 x71 x72 x73 : Value) (e8 : x8 = .int .i64 i) (e9 : x9 = v9) (e12 : x12 = v12) => (hn w₁ (fun n => match n with | 2 => x2 | 3 => x3 | 8 => x8 | 9 => x9 | 10 => x10 | 11 => x11 | 12 => x12 | 13 => x13 | 14 => x14 | 15 => x15 | 16 => x16 | 17 => x17 | 18 => x18 | 22 => x22 | 23 => x23 | 24 => x24 | 25 => x25 | 26 => x26 | 27 => x27 | 28 => x28 | 29 => x29 | 30 => x30 | 31 => x31 | 32 => x32 | 33 => x33 | 34 => x34 | 35 => x35 | 36 => x36 | 37 => x37 | 38 => x38 | 39 => x39 | 40 => x40 | 41 => x41 | 42 => x42 | 43 => x43 | 44 => x44 | 45 => x45 | 46 => x46 | 47 => x47 | 48 => x48 | 49 => x49 | 50 => x50 | 51 => x51 | 52 => x52 | 53 => x53 | 54 => x54 | 55 => x55 | 56 => x56 | 57 => x57 | 58 => x58 | 59 => x59 | 60 => x60 | 61 => x61 | 62 => x62 | 63 => x63 | 64 => x64 | 65 => x65 | 66 => x66 | 67 => x67 | 68 => x68 | 69 => x69 | 70 => x70 | 71 => x71 | 72 => x72 | 73 => x73 | _ => undef) e8 e9 e12 hF)
  exact hk2 _ _ _ _ _ _ _ _ _ _ _ _ _ _ _ _ _ _ _ _ _ _ _ _ _ _ _ _ _ _ _ _ _ _ _ _ _ _ _ _ _ _ _ _ _ _ _ _ _ _ _ _ _ _ _ _ _ _ _ _ _ _ _ _ _ rfl rfl rfl

end Go.Proofs.Ytgpplekabohneaa.Co

namespace Go.Proofs.Ytgpplekabohneaa.Co
open Go Go.Conc Go.RowKit Go.ConcR.Gen Go.ConcN.Gen
open Go.ConcR (DC0)

def opsIn : Code → Array Oper
  | .region _ ops _ => ops
  | _ => #[]

/-- At the send. -/
def MS.atS (m : MS) (cs : List Frame) (i : Nat) (j : Nat → Value) (F : Func := Try.f32) : Goroutine := G ((base 32).at ⟨m.tmps i j, []⟩ [.inRegion (opsIn (code16 F)) [4], .inBlock 1, .code (code17 (mLoop F)), .inLoop (mLoop F), .inBlock 0, .code (mRest F)]) cs

set_option maxRecDepth 100000 in
set_option maxHeartbeats 4000000 in
theorem at16_send (m : MS) (cs : List Frame) (i : Nat) (j : Nat → Value) {Ev : Own → Event → Prop} {Z : Nat → Prop} (hE : LetsOwn Ev Z) {Stop : Pos → Prop} {O : Own} {w : World} {n9 c : Nat} {p : Pk} (h8 : j 8 = .int .i64 i) (h9 : j 9 = .pointer (some ⟨n9, 0, none⟩)) (h12 : j 12 = .chan (some c))
    (hO9 : O.B n9) (hZ9 : ¬ Z n9) (hn9 : w.heap[n9]? = some (.cells (pkC p) 38 (0, 0)))
    (hn : ∀ w₁ j', j' 60 = .chan (some c) → j' 63 = .agg (plC i p) → Rely O w w₁ → Run Try.prog true Ev Stop ⟨O, 0, m.atS cs i j', w₁⟩) :
    Run Try.prog true Ev Stop ⟨O, 0, m.at16 cs i j, w⟩ := by
  unfold MS.at16
  unfold MS.atS at hn
  simp only [code16, opsIn, mLoop, firstLoop, mRest, behind, code7, code17, restOf, Try.f32, Option.getD_some, MS.tmps, MS.ps, MS.sl, h8, h9, h12] at hn ⊢
  have hF : Rely O w w := Rely.refl _ _
  refine Run.of_goes (R := Rely O) (D := DC0) (S := fun g x => Run Try.prog true Ev Stop ⟨O, 0, g, x⟩) (n := 40) (fun _ _ h => h) dc0_ok (fun _ _ h => h) ?_
  u_reg rl_trans hF
  u_op rl_trans hF
  u_op rl_trans hF
  refine Goes.stop (fun w₁ h₁ => ?_)
  replace hF := rl_trans hF h₁
  clear h₁

  have hb9 := (hF.blk n9 hO9).trans hn9
  refine Run.loadB (e := 38) (cur := pkC p) (n := 15) (off := 0) hE rfl rfl (by k_ne) rfl rfl Try.isAgg38 (ev_agg 38) Try.sizeOf38 (ev_size 38) hO9 hZ9 hb9 (by simp [pkC]) ?_
  rw [show (List.take 15 (List.drop 0 (pkC p).toList)).toArray = pkC p from rfl]
  try walk_nrm
  simp only [pkC]
  refine Run.of_goes (R := Rely O) (D := DC0) (S := fun g x => Run Try.prog true Ev Stop ⟨O, 0, g, x⟩) (n := 20) (fun _ _ h => h) dc0_ok (fun _ _ h => h) ?_
  try walk_nrm
  u_op rl_trans hF
  refine Goes.stop (fun w₁ h₁ => ?_)
  replace hF := rl_trans hF h₁
  clear h₁

  have hk2 := fun (x2 x3 x8 x9 x10 x11 x12 x13 x14 x15 x16 x17 x18 x22 x23 x24 x25 x26 x27 x28 x29 x30 x31 x32 x33 x34 x35 x36 x37 x38 x39 x40 x41 x42 x43 x44 x45 x46 x47 x48 x49 x50 x51 x52 x53 x54 x55 x56 x57 x58 x59 x60 x61 x62 x63 x64 x65 x66 x67 x68 x69 x70 x71 x72 x73 : Value) (e60 : x60 = .chan (some c)) (e63 : x63 = .agg (plC i p)) => (hn w₁ (fun n => match n with | 2 => x2 | 3 => x3 | 8 => x8 | 9 => x9 | 10 => x10 | 11 => x11 | 12 => x12 | 13 => x13 | 14 => x14 | 15 => x15 | 16 => x16 | 17 => x17 | 18 => x18 | 22 => x22 | 23 => x23 | 24 => x24 | 25 => x25 | 26 => x26 | 27 => x27 | 28 => x28 | 29 => x29 | 30 => x30 | 31 => x31 | 32 => x32 | 33 => x33 | 34 => x34 | 35 => x35 | 36 => x36 | 37 => x37 | 38 => x38 | 39 => x39 | 40 => x40 | 41 => x41 | 42 => x42 | 43 => x43 | 44 => x44 | 45 => x45 | 46 => x46 | 47 => x47 | 48 => x48 | 49 => x49 | 50 => x50 | 51 => x51 | 52 => x52 | 53 => x53 | 54 => x54 | 55 => x55 | 56 => x56 | 57 => x57 | 58 => x58 | 59 => x59 | 60 => x60 | 61 => x61 | 62 => x62 | 63 => x63 | 64 => x64 | 65 => x65 | 66 => x66 | 67 => x67 | 68 => x68 | 69 => x69 | 70 => x70 | 71 => x71 | 72 => x72 | 73 => x73 | _ => undef) e60 e63 hF)
  exact hk2 _ _ _ _ _ _ _ _ _ _ _ _ _ _ _ _ _ _ _ _ _ _ _ _ _ _ _ _ _ _ _ _ _ _ _ _ _ _ _ _ _ _ _ _ _ _ _ _ _ _ _ _ _ _ _ _ _ _ _ _ _ _ _ _ _ rfl rfl

set_option maxRecDepth 100000 in
theorem atS_comm (m : MS) (cs : List Frame) (i : Nat) (j : Nat → Value) (main : Bool) {c : Nat} {v : Value} (h60 : j 60 = .chan (some c)) (h63 : j 63 = v) (w₁ : World) : stepG Try.prog main (m.atS cs i j) w₁ = .comm (m.atS cs i j) #[scase c v (.tuple #[])] true .send w₁ #[] := by
  unfold MS.atS
  simp only [code16, opsIn, mLoop, firstLoop, mRest, behind, code7, code17, restOf, Try.f32, Option.getD_some, MS.tmps, MS.ps, MS.sl]
  refine stepG_comm rfl rfl (by k_ne) ?_ ?_
  · simp [go_sem, scase, h60, h63]
  · simp [go_sem]

set_option maxRecDepth 100000 in
set_option maxHeartbeats 4000000 in
theorem atS_next (m : MS) (cs : List Frame) (i : Nat) (j : Nat → Value) {Ev : Own → Event → Prop} {Stop : Pos → Prop} {O O' : Own} {w : World} (hi : i < m.N) (hiN : (m.N : Int) < 9223372036854775807)
    (hB' : ∀ b, O'.B b → O.B b) (hC' : ∀ b o, O'.C b o → O.C b o) (hX' : ∀ b, O'.X b → O.X b)
    (hk : ∀ w₁ j', Rely O w w₁ → Run Try.prog true Ev Stop ⟨O', 0, m.head cs (i + 1) j', w₁⟩) :
    Run Try.prog true Ev Stop ⟨O, 0, Conc.served (m.atS cs i j) undef, w⟩ := by
  unfold MS.atS
  unfold MS.head at hk
  simp only [code16, opsIn, mLoop, firstLoop, mRest, behind, code7, code17, restOf, Try.f32, Option.getD_some, MS.tmps, MS.ps, MS.sl] at hk ⊢
  rw [served_G]
  have hF : Rely O w w := Rely.refl _ _
  have hci : ((i + 1 : Nat) : Int) = (i : Int) + 1 := rfl
  have hwr : IntKind.i64.wrap ((i : Int) + 1) = (i : Int) + 1 := by rw [IntKind.wrap_i64]; omega
  refine Run.of_goes (R := Rely O) (D := DC0) (S := fun g x => Run Try.prog true Ev Stop ⟨O, 0, g, x⟩) (n := 40) (fun _ _ h => h) dc0_ok (fun _ _ h => h) ?_
  try walk_nrm
  u_c stepG_region_end rl_trans hF
  u_c stepG_inBlock rl_trans hF
  u_reg rl_trans hF
  u_op rl_trans hF
  u_op rl_trans hF
  u_c stepG_region_end rl_trans hF
  refine Goes.stop (fun w₁ h₁ => ?_)
  replace hF := rl_trans hF h₁
  clear h₁

  refine Run.ctlO (O' := O') hB' hC' hX' rfl (fun _ => stepG_inLoop) ?_
  have hk2 := fun (x2 x3 x8 x9 x10 x11 x12 x13 x14 x15 x16 x17 x18 x22 x23 x24 x25 x26 x27 x28 x29 x30 x31 x32 x33 x34 x35 x36 x37 x38 x39 x40 x41 x42 x43 x44 x45 x46 x47 x48 x49 x50 x51 x52 x53 x54 x55 x56 x57 x58 x59 x60 x61 x62 x63 x64 x65 x66 x67 x68 x69 x70 x71 x72 x73 : Value) => (hk w₁ (fun n => match n with | 2 => x2 | 3 => x3 | 8 => x8 | 9 => x9 | 10 => x10 | 11 => x11 | 12 => x12 | 13 => x13 | 14 => x14 | 15 => x15 | 16 => x16 | 17 => x17 | 18 => x18 | 22 => x22 | 23 => x23 | 24 => x24 | 25 => x25 | 26 => x26 | 27 => x27 | 28 => x28 | 29 => x29 | 30 => x30 | 31 => x31 | 32 => x32 | 33 => x33 | 34 => x34 | 35 => x35 | 36 => x36 | 37 => x37 | 38 => x38 | 39 => x39 | 40 => x40 | 41 => x41 | 42 => x42 | 43 => x43 | 44 => x44 | 45 => x45 | 46 => x46 | 47 => x47 | 48 => x48 | 49 => x49 | 50 => x50 | 51 => x51 | 52 => x52 | 53 => x53 | 54 => x54 | 55 => x55 | 56 => x56 | 57 => x57 | 58 => x58 | 59 => x59 | 60 => x60 | 61 => x61 | 62 => x62 | 63 => x63 | 64 => x64 | 65 => x65 | 66 => x66 | 67 => x67 | 68 => x68 | 69 => x69 | 70 => x70 | 71 => x71 | 72 => x72 | 73 => x73 | _ => undef) hF)
  simp only [hci] at hk2
  exact hk2 _ _ _ _ _ _ _ _ _ _ _ _ _ _ _ _ _ _ _ _ _ _ _ _ _ _ _ _ _ _ _ _ _ _ _ _ _ _ _ _ _ _ _ _ _ _ _ _ _ _ _ _ _ _ _ _ _ _ _ _ _ _ _ _ _

end Go.Proofs.Ytgpplekabohneaa.Co
