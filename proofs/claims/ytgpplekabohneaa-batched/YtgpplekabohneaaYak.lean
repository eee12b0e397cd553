/- A tenant whose blocks are renamed is a tenant; a tenant's pass, in company. · 'Batched': what holds in memory holds whatever the tape is; the function's pieces. · 'Batched', up to its first batch. -/
import Derived.Test.YtgpplekabohneaaYaj
import Derived.Test.YtgpplekabohneaaQx
import Derived.Test.YtgpplekabohneaaWf
import Derived.Test.YtgpplekabohneaaWg
import Derived.Test.YtgpplekabohneaaMc
import Derived.Test.YtgpplekabohneaaZb
namespace Go.Proofs.Ytgpplekabohneaa.Co
open Go Go.Conc Go.RowKit

def idOn (S : Nat → Prop) : Ren := fun b B => b = B ∧ S b
def ran (r : Ren) : Nat → Prop := fun B => ∃ b, r b B

theorem bi_idOn (S : Nat → Prop) : Bi 0 (idOn S) := ⟨fun _ _ _ h k => h.1.symm.trans k.1, fun _ _ _ h k => h.1.trans k.1.symm, fun _ _ _ => ⟨Nat.zero_le _, Nat.zero_le _⟩⟩

section
variable {r : Ren}

theorem VR.norm {v V : Value} (h : VR r v V) : VR (idOn (ran r)) V V := by
  induction h using VR.ind with
  | ptr o s hb => exact .ptr o s ⟨rfl, _, hb⟩
  | slice o s l c hb => exact .slice o s l c ⟨rfl, _, hb⟩
  | map hb => exact .map ⟨rfl, _, hb⟩
  | agg e _ ih => exact .agg rfl fun i h _ => ih i (e ▸ h) h
  | tuple e _ ih => exact .tuple rfl fun i h _ => ih i (e ▸ h) h
  | _ => first | exact .bool _ | exact .int _ _ | exact .nilPtr | exact .nilSlice _ _ | exact .nilMap | exact .func _ | exact .nilFunc | exact .nilIface

theorem ER.norm {a A : MapEntry} (h : ER r a A) : ER (idOn (ran r)) A A := by
  cases h using ER.cs with
  | mk n hk hv => exact .mk n hk.norm hv.norm

theorem OR.norm {o O : Obj} (h : OR r o O) : OR (idOn (ran r)) O O := by
  cases h using OR.cs with
  | cells e f hc => exact .cells e f ⟨rfl, fun i h h' => (hc.2 i (hc.1 ▸ h) h).norm⟩
  | map n e he =>
    exact .map n rfl fun i h _ => (he i (e ▸ h) h).norm
  | number l ha =>
    cases ha using DR.cs with
    | mk o s hb => exact .number l (.mk o s ⟨rfl, _, hb⟩)

theorem WR.norm {w W : World} (h : WR r w W) : WR (idOn (ran r)) W W := by
  refine ⟨?_, rfl, rfl⟩
  rintro b B ⟨rfl, a, ha⟩
  obtain ⟨o, O, _, h2, h3⟩ := h.obj a b ha
  exact ⟨O, O, h2, h2, h3.norm⟩

theorem VR.int_eq {k : IntKind} {n : Int} {V : Value} (h : VR r (.int k n) V) : V = .int k n := by cases h using VR.cs; rfl
theorem VR.bool_eq {b : Bool} {V : Value} (h : VR r (.bool b) V) : V = .bool b := by cases h using VR.cs; rfl
theorem VR.map_eq {b : Nat} {V : Value} (h : VR r (.map (some b)) V) : ∃ B, V = .map (some B) ∧ r b B := by cases h using VR.cs with | map hb => exact ⟨_, rfl, hb⟩
theorem VR.ptr_eq {b o : Nat} {s : Option Nat} {V : Value} (h : VR r (.pointer (some ⟨b, o, s⟩)) V) : ∃ B, V = .pointer (some ⟨B, o, s⟩) ∧ r b B := by cases h using VR.cs with | ptr _ _ hb => exact ⟨_, rfl, hb⟩
theorem VR.slice_eq {b o l c : Nat} {s : Option Nat} {V : Value} (h : VR r (.slice (some ⟨b, o, s⟩) l c) V) : ∃ B, V = .slice (some ⟨B, o, s⟩) l c ∧ r b B := by cases h using VR.cs with | slice _ _ _ _ hb => exact ⟨_, rfl, hb⟩

/-- A value without an address corresponds to itself alone. -/
theorem VR.flat_eq {v V : Value} (h : VR r v V) (hf : VR (fun _ _ => False) v v) : V = v := by
  induction h using VR.ind with
  | ptr o s hb => cases hf using VR.cs with | ptr _ _ h => exact h.elim
  | slice o s l c hb => cases hf using VR.cs with | slice _ _ _ _ h => exact h.elim
  | map hb => cases hf using VR.cs with | map h => exact h.elim
  | @agg cs ds e _ ih =>
    cases hf using VR.cs with
    | agg _ hf =>
      congr 1
      refine Array.ext e.symm fun i h1 h2 => ih i h2 h1 (hf i h2 h2)
  | @tuple cs ds e _ ih =>
    cases hf using VR.cs with
    | tuple _ hf =>
      congr 1
      refine Array.ext e.symm fun i h1 h2 => ih i h2 h1 (hf i h2 h2)
  | _ => rfl

theorem flat_pk (p : Pk) (r : Ren) : VR r (.agg (pkC p)) (.agg (pkC p)) := flatB_sound 2 (.agg (pkC p)) (by simp [pkC, flatB]) r
theorem flat_kP (m : Mp) (r : Ren) : VR r (kP m) (kP m) := flatB_sound 2 (kP m) (by simp [kP, flatB]) r
theorem flat_kI (m : Mp) (r : Ren) : VR r (kI m) (kI m) := flatB_sound 2 (kI m) (by simp [kI, flatB]) r

theorem LE.born {l L : List MapEntry} (h : LE r l L) : l.map (·.born) = L.map (·.born) := by
  induction h using LE.ind with
  | nil => rfl
  | cons h _ ih =>
    cases h using ER.cs with
    | mk n _ _ => simp [ih]

/-- Maps from flat keys to blocks. -/
theorem LE.keys {α : Type} (key : α → Value) (hkey : ∀ x, VR (fun _ _ => False) (key x) (key x)) (blk blk' : α → Nat) : ∀ {l L : List MapEntry} (M : List α), LE r l L → (∀ x ∈ M, ∀ B, r (blk x) B → B = blk' x) →
      l.map (fun e => (e.key, e.val)) = M.map (fun x => (key x, ptrV (blk x))) → L.map (fun e => (e.key, e.val)) = M.map (fun x => (key x, ptrV (blk' x))) ∧ ∀ x ∈ M, r (blk x) (blk' x) := by
  intro l L M h
  induction h using LE.ind generalizing M with
  | nil =>
    intro _ he
    cases M with
    | nil => simp
    | cons a b => simp at he
  | @cons e E l L h0 _ ih =>
    intro hb he
    cases M with
    | nil => simp at he
    | cons a M =>
      simp only [List.map_cons, List.cons.injEq, Prod.mk.injEq] at he ⊢
      obtain ⟨h1, h2⟩ := ih M (fun x hx => hb x (by simp [hx])) he.2
      cases h0 using ER.cs with
      | @mk k K v V n hk hv =>
        simp only at he ⊢
        obtain ⟨⟨rfl, rfl⟩, _⟩ := he
        obtain ⟨B, rfl, hr⟩ := VR.ptr_eq hv
        have hB' := hb a (by simp) B hr
        subst hB'
        refine ⟨⟨⟨hk.flat_eq (hkey a), rfl⟩, h1⟩, ?_⟩
        intro x hx
        rcases List.mem_cons.1 hx with rfl | hx
        · exact hr
        · exact h2 x hx

theorem LR.ints {l : List Int} {L : List Value} (h : LR r (intsV l) L) : L = intsV l := by
  induction l generalizing L with
  | nil => cases h using LR.cs; rfl
  | cons a l ih =>
    cases h using LR.cs with
    | cons h1 h2 =>
      rw [VR.int_eq h1, ih h2]
      rfl

theorem LR.take {l L : List Value} (h : LR r l L) : ∀ n, LR r (l.take n) (L.take n) := by
  induction h using LR.ind with
  | nil => intro n; simp; exact .nil
  | cons h _ ih =>
    intro n
    cases n with
    | zero => exact .nil
    | succ n => exact .cons h (ih n)

/-- Where each block goes. -/
theorem img {Gl : Nat} (hB : Bi Gl r) : ∃ f : Nat → Nat, ∀ b B : Nat, r b B → f b = B := by
  have h : ∀ b, ∃ B, ∀ B', r b B' → B = B' := by
    intro b
    rcases Classical.em (∃ B, r b B) with ⟨B, hb⟩ | hn
    · exact ⟨B, fun B' hb' => hB.fn _ _ _ hb hb'⟩
    · exact ⟨0, fun B' hb' => absurd ⟨B', hb'⟩ hn⟩
  exact ⟨fun b => Classical.choose (h b), fun b B hb => Classical.choose_spec (h b) B hb⟩

/-- The list of peers, renamed. -/
def imgV (f : Nat → Nat) : Value → Value
  | .slice (some a) l c => .slice (some ⟨f a.block, a.off, a.spot⟩) l c
  | v => v

theorem arr_list {c : Array Value} {l : List Value} (h : c.toList = l) : c = l.toArray := by cases c; simp_all

theorem mem_ren {f : Nat → Nat} (hf : ∀ b B : Nat, r b B → f b = B) {w W : World} (hw : WR r w W) {g g' : Nat} {sv : Value} {m : Mp} (h : Mem w g sv m) (hg : r g g') :
    Mem W g' (imgV f sv) m ∧ (∀ b, (imgV f sv).ownBlock = some b → ∃ a, sv.ownBlock = some a ∧ r a b) := by
  obtain ⟨h1, h2⟩ := h
  obtain ⟨o, O, e1, e2, e3⟩ := hw.obj g g' hg
  rw [h1] at e1
  simp only [Option.some.injEq] at e1
  subst e1
  cases e3 using OR.cs with
  | @cells _ C e f hc =>
    have hl := hc.list
    simp only [mpC] at hl
    generalize hC : C.toList = CL at hl
    cases hl using LR.cs with | cons v1 hl => cases hl using LR.cs with | cons v2 hl => cases hl using LR.cs with | cons v3 hl => cases hl using LR.cs with | cons v4 hl => cases hl using LR.cs with | cons v5 hl => cases hl using LR.cs with | cons v6 hl => cases hl using LR.cs with | cons v7 hl => cases hl using LR.cs with | cons v8 hl => cases hl using LR.cs with | cons v9 hl =>
    cases hl using LR.cs
    have hC' := arr_list hC
    rw [VR.int_eq v1, VR.int_eq v2, VR.int_eq v3, VR.int_eq v4, VR.int_eq v6, VR.int_eq v7, VR.bool_eq v8, VR.bool_eq v9] at hC'
    rename_i V5 _ _ _ _
    have hsv : V5 = imgV f sv ∧ W.ownsRow 0 3 1 (imgV f sv) m.peers.length (intsV m.peers) ∧ (∀ b, (imgV f sv).ownBlock = some b → ∃ a, sv.ownBlock = some a ∧ r a b) := by
      obtain ⟨hlen, h2⟩ := h2
      rcases h2 with ⟨rfl, hn⟩ | ⟨q, cap, cur, rfl, hq0, hq, hle, hcap, hsz, htk⟩
      · cases v5 using VR.cs
        exact ⟨rfl, ⟨hlen, .inl ⟨rfl, hn⟩⟩, by simp [imgV, Value.ownBlock]⟩
      · obtain ⟨Q, rfl, hr⟩ := VR.slice_eq v5
        have hQ := hf _ _ hr
        obtain ⟨o, O, f1, f2, f3⟩ := hw.obj q Q hr
        rw [hq] at f1
        simp only [Option.some.injEq] at f1
        subst f1
        cases f3 using OR.cs with
        | @cells _ D e f hd =>
          refine ⟨by simp [imgV, hQ], ⟨hlen, .inr ⟨Q, cap, D, by simp [imgV, hQ], Nat.zero_le _, f2, hle, hcap, by rw [← hd.1]; exact hsz, ?_⟩⟩, ?_⟩
          · have := (hd.list).take (m.peers.length * 1)
            rw [htk] at this
            exact LR.ints this
          · intro b hb
            simp only [imgV, Value.ownBlock, hQ, Option.some.injEq] at hb
            subst hb
            exact ⟨q, rfl, hr⟩
    refine ⟨⟨?_, hsv.2.1⟩, hsv.2.2⟩
    rw [e2, hC', hsv.1]
    rfl

theorem tenR_ren {Gl : Nat} (hB : Bi Gl r) {w W : World} (hw : WR r w W) {S : Nat → Prop} {g hp hi g' : Nat} {T : Tn} {L : List Cl} (h : TenR w S g hp hi T L) (hg : r g g') :
    ∃ hp' hi' L', r hp hp' ∧ r hi hi' ∧ TenR W (ran r) g' hp' hi' T L' := by
  obtain ⟨o, O, e1, e2, e3⟩ := hw.obj g g' hg
  rw [h.blk] at e1
  simp only [Option.some.injEq] at e1
  subst e1
  cases e3 using OR.cs with
  | @cells _ C e f hc =>
    have hl := hc.list
    generalize hC : C.toList = CL at hl
    cases hl using LR.cs with | cons v1 hl => cases hl using LR.cs with | cons v2 hl => cases hl using LR.cs with | cons v3 hl => cases hl using LR.cs with | cons v4 hl => cases hl using LR.cs with | cons v5 hl =>
    cases hl using LR.cs
    obtain ⟨hp', e4, rp⟩ := VR.map_eq v4
    obtain ⟨hi', e5, ri⟩ := VR.map_eq v5
    have hC' := arr_list hC
    rw [VR.int_eq v1, VR.int_eq v2, VR.int_eq v3, e4, e5] at hC'
    obtain ⟨es, c, p1, p2, p3, p4⟩ := h.mp
    obtain ⟨fs, c', q1, q2⟩ := h.mi
    obtain ⟨_, ES', a1, a2, a3⟩ := hw.obj hp hp' rp
    rw [p1] at a1
    simp only [Option.some.injEq] at a1
    subst a1
    obtain ⟨_, FT', b1, b2, b3⟩ := hw.obj hi hi' ri
    rw [q1] at b1
    simp only [Option.some.injEq] at b1
    subst b1
    cases a3 using OR.cs with
    | @map _ ES n x1 x2 =>
    cases b3 using OR.cs with
    | @map _ FT n' y1 y2 =>
      have lp := LE.ofArr x1 x2
      have li := LE.ofArr y1 y2
      obtain ⟨f, hf⟩ := img hB
      obtain ⟨kp, rg⟩ := lp.keys (fun x : Cl => kP x.m) (fun x => flat_kP x.m _) (fun x => x.g) (fun x => f x.g) L (fun x _ B hx => (hf _ _ hx).symm) p2
      obtain ⟨ki, _⟩ := li.keys (fun x : Cl => kI x.m) (fun x => flat_kI x.m _) (fun x => x.g) (fun x => f x.g) L (fun x _ B hx => (hf _ _ hx).symm) q2
      have mem : ∀ x ∈ L, Mem W (f x.g) (imgV f x.sv) x.m ∧ (∀ b, (imgV f x.sv).ownBlock = some b → ∃ a, x.sv.ownBlock = some a ∧ r a b) := fun x hx => mem_ren hf hw (h.mem x hx).1 (rg x hx)
      refine ⟨hp', hi', L.map fun x => ⟨f x.g, imgV f x.sv, x.m⟩, rp, ri, ⟨⟨_, hg⟩, ⟨_, rp⟩, ⟨_, ri⟩, fun e => h.ne (hB.inj _ _ _ rp (e ▸ ri)), ?_, ?_, ?_, ?_, ?_, ?_, ?_, h.good⟩⟩
      · rintro k ⟨b, hb⟩
        exact (hw.lt hb).2
      · rw [e2, hC']
      · refine ⟨ES, c, a2, ?_, ?_, ?_⟩
        · rw [kp, List.map_map]; rfl
        · intro e he
          have hm : e.born ∈ ES.toList.map (·.born) := List.mem_map_of_mem he
          rw [← lp.born] at hm
          obtain ⟨e', he', hbe⟩ := List.mem_map.1 hm
          rw [← hbe]
          exact p3 e' he'
        · rw [← lp.born]; exact p4
      · exact ⟨FT, c', b2, by rw [ki, List.map_map]; rfl⟩
      · rw [List.map_map, ← h.maps]; rfl
      · intro x hx
        obtain ⟨y, hy, rfl⟩ := List.mem_map.1 hx
        refine ⟨(mem y hy).1, ⟨_, rg y hy⟩, fun b hb => ?_⟩
        obtain ⟨a, _, ha⟩ := (mem y hy).2 b hb
        exact ⟨a, ha⟩
      · rw [List.pairwise_map]
        refine List.Pairwise.imp_of_mem ?_ h.apart
        rintro x y hx hy ⟨n1, n2, n3⟩
        refine ⟨fun e => n1 (hB.inj _ _ _ (rg x hx) (by dsimp only at e; rw [e]; exact rg y hy)), fun b hb hb' => ?_, n3⟩
        obtain ⟨a, ha, hra⟩ := (mem x hx).2 b hb
        obtain ⟨a', ha', hra'⟩ := (mem y hy).2 b hb'
        have := hB.inj _ _ _ hra hra'
        subst this
        exact n2 a ha ha'

/-- A tenant in memory whose blocks lead to nothing but each other. -/
structure TenC (W : World) (S : Nat → Prop) (g hp hi : Nat) (T : Tn) (L : List Cl) : Prop where
  ten : TenR W S g hp hi T L
  wr : WR (idOn S) W W

theorem tenR_tp {w : World} {S : Nat → Prop} {g hp hi : Nat} {T : Tn} {L : List Cl} (h : TenR w S g hp hi T L) (t : Nat → Question → Nat) (d : Nat) : TenR (tp w t d) S g hp hi T L :=
  ⟨h.sg, h.shp, h.shi, h.ne, h.bound, h.blk, h.mp, h.mi, h.maps, h.mem, h.apart, h.good⟩
theorem tenR_untp {w : World} {S : Nat → Prop} {g hp hi : Nat} {T : Tn} {L : List Cl} {t : Nat → Question → Nat} {d : Nat} (h : TenR (Co.tp w t d) S g hp hi T L) : TenR w S g hp hi T L :=
  ⟨h.sg, h.shp, h.shi, h.ne, h.bound, h.blk, h.mp, h.mi, h.maps, h.mem, h.apart, h.good⟩

/-- What a pass hands back. -/
def passV (T : Tn) (p : Pk) : Value := .tuple #[.agg (pkC (passF T p).2.1), .int .i64 (passF T p).2.2]
theorem flat_passV (T : Tn) (p : Pk) (r : Ren) : VR r (passV T p) (passV T p) := flatB_sound 3 (passV T p) (by simp [passV, pkC, flatB]) r

abbrev PF : FuncId → Prop := fun f => f ∈ passFns

/-- The pass has come to its return. -/
def PTgt (g hp hi : Nat) (T : Tn) (p : Pk) (y : Cfg) : Prop :=
  y.cs = [] ∧ ∃ t d S L, y.fr.leaving Try.prog (tp y.w t d) (.returned (passV T p)) ∧ TenR y.w S g hp hi (passF T p).1 L

theorem pass_good {W : World} {S : Nat → Prop} {g hp hi : Nat} {T : Tn} {L : List Cl} (h : TenC W S g hp hi T L) (p : Pk) (hpr : 1 ≤ p.proto ∧ p.proto ≤ 3) :
    Good Try.prog (PTgt g hp hi T p) ⟨Frame.enter Try.prog 29 #[.pointer (some ⟨g, 0, none⟩), .agg (pkC p)] .normal, [], W⟩ ∧
    CR Try.prog PF 0 (idOn S) ⟨Frame.enter Try.prog 29 #[.pointer (some ⟨g, 0, none⟩), .agg (pkC p)] .normal, [], W⟩ ⟨Frame.enter Try.prog 29 #[.pointer (some ⟨g, 0, none⟩), .agg (pkC p)] .normal, [], W⟩ := by
  have hargs : AR (idOn S) #[.pointer (some ⟨g, 0, none⟩), .agg (pkC p)] #[.pointer (some ⟨g, 0, none⟩), .agg (pkC p)] := by
    refine LR.arr (.cons (.ptr 0 none ⟨rfl, h.ten.sg⟩) (.cons (flat_pk p _) .nil))
  have hcr : CR Try.prog PF 0 (idOn S) ⟨Frame.enter Try.prog 29 #[.pointer (some ⟨g, 0, none⟩), .agg (pkC p)] .normal, [], W⟩ ⟨Frame.enter Try.prog 29 #[.pointer (some ⟨g, 0, none⟩), .agg (pkC p)] .normal, [], W⟩ :=
    ⟨FrR.enter passFns_ok (by simp [passFns]) hargs, .nil, h.wr, bi_idOn S, Nat.zero_le _, Nat.zero_le _⟩
  refine ⟨good_of_steps globals_size passFns_ok ⟨_, _, hcr⟩ ?_ ?_, hcr⟩
  · rintro y t d ⟨h1, t', d', S', L', h2, h3⟩
    exact ⟨h2.1, h1, h1, t', d', S', L', h2, tenR_untp h3⟩
  · intro t d
    obtain ⟨e, w', fr, ⟨rfl, L', hT, _⟩, hc, _, hl⟩ := pass_any (tenR_tp h.ten t d) p hpr [trap Try.prog]
    exact ⟨⟨fr, [], w'⟩, ⟨rfl, w'.tape, w'.drawn, _, L', hl, hT⟩, hc⟩

theorem add_ran (O : Own) (r : Ren) : O.add (idOn (ran r)) = O.add r := by
  unfold Own.add
  simp only [Own.mk.injEq, and_true]
  funext B
  refine propext ⟨?_, ?_⟩
  · rintro (x | ⟨b, rfl, x⟩)
    · exact .inl x
    · exact .inr x
  · rintro (x | x)
    · exact .inl x
    · exact .inr ⟨B, rfl, x⟩

/-- A TENANT's PASS IN COMPANY. -/
theorem pass_run {main : Bool} {Ev : Own → Event → Prop} (hEv : ∀ O e r, EvOk r e → (∀ b B, r b B → O.B B) → Ev O e) {Stop : Pos → Prop} {W : World} {S : Nat → Prop} {g hp hi : Nat} {T : Tn} {L : List Cl}
    (h : TenC W S g hp hi T L) (p : Pk) (hpr : 1 ≤ p.proto ∧ p.proto ≤ 3) {O : Own} (hA : Aside O (idOn S) W) {d : Nat} {c : Frame} {cs : List Frame}
    (hk : ∀ W' S' L', TenC W' S' g hp hi (passF T p).1 L' → (∀ b, S b → S' b) → (∀ b, S' b → S b ∨ W.heap.size ≤ b) → Aside O (idOn S') W' → Rely O W W' → Run Try.prog main Ev Stop ⟨O.add (idOn S'), d, G (c.finish (passV T p)) cs, W'⟩) :
    Run Try.prog main Ev Stop ⟨O.add (idOn S), d, G (Frame.enter Try.prog 29 #[.pointer (some ⟨g, 0, none⟩), .agg (pkC p)] .normal) (c :: cs), W⟩ := by
  obtain ⟨hgood, hcr⟩ := pass_good h p hpr
  refine Run.bind (Run.of_good (base := c :: cs) globals_size passFns_ok hEv hgood hcr hA) ?_
  rintro x ⟨y, r, fr, cs', ⟨hy1, t, d', S2, L2, hl, hT⟩, hx, hcr2, hsub, hO, hd, hrel, hasd, hfr⟩
  obtain ⟨xO, xd, xg, xw⟩ := x
  dsimp only at hx hO hd hrel hcr2 hasd hfr
  subst hx hO hd
  have hcs' : cs' = [] := by
    have := hcr2.cs
    rw [show (y.tp xw.tape xw.drawn).cs = [] from hy1] at this
    cases this using CsR.cs
    rfl
  subst hcs'
  refine Run.one rfl fun w₁ h₁ => ?_
  have hcr1 := hcr2.relied h₁ (fun b B hb => .inr ⟨b, hb⟩)
  obtain ⟨hm, hdf, hkd, fn, hf, hres⟩ := hl
  have hBi := hcr1.bi
  -- what the lone one hands back, on whatever tape
  have hTR := tr_act globals_size hBi hcr1.fr
  obtain ⟨k, hsh⟩ := hTR.tape hBi (hcr1.wr.tp t d') hcr1.lo hcr1.hi
  have hact : (act Try.prog y.fr).run Try.prog (tp y.w t d') = .ok (.ret (passV T p)) (tp y.w t d') := by
    unfold act
    rw [hm]
    dsimp only
    rw [hf]
    dsimp only
    rw [Sem.run_bind, hres]
    rfl
  have hrun : (act Try.prog y.fr).run Try.prog (tp y.w w₁.tape w₁.drawn) = .ok (.ret (passV T p)) (tp y.w w₁.tape w₁.drawn) := by
    rcases hsh with ⟨a, w2, hs⟩ | ⟨hh, w2, hs⟩
    · have h0 := hs t d' (fun _ _ => rfl)
      have h0' : Result.ok (Out.ret (passV T p)) (tp y.w t d') = .ok a (tp w2 t (d' + k)) := hact.symm.trans h0
      simp only [Result.ok.injEq] at h0'
      obtain ⟨rfl, h0'⟩ := h0'
      have hk0 : k = 0 := by
        have := congrArg World.drawn h0'
        simp only [tp] at this
        omega
      subst hk0
      have hw2 : ∀ T' n, tp w2 T' n = tp y.w T' n := by
        intro T' n
        have := congrArg (fun w => tp w T' n) h0'
        exact this.symm
      have := hs w₁.tape w₁.drawn (fun j hj => absurd hj (by omega))
      rw [Nat.add_zero, hw2] at this
      exact this
    · have h0 := hs t d' (fun _ _ => rfl)
      have h0' := hact.symm.trans h0
      cases h0'
  obtain ⟨r', OUT, W', es, e1, e2, e3, e4, e5, e6, e7, e8, e9⟩ := (hTR.ran hBi hcr1.wr hcr1.lo hcr1.hi hrun).out #[]
  rw [Array.empty_append] at e1
  cases e8 using OutR.cs with
  | @ret _ V hV =>
    have hVe : V = passV T p := hV.flat_eq (flat_passV T p _)
    subst hVe
    have hrun' : (act Try.prog fr).run Try.prog w₁ = .ok (.ret (passV T p)) W' := by
      have := congrArg Prod.fst e1
      rw [Sem.runT_fst] at this
      exact this
    have hev : (act Try.prog fr).events Try.prog w₁ #[] = es := congrArg Prod.snd e1
    have hst := stepG_act (main := main) (cs := c :: cs) hcr1.fr.pb hrun' rfl
    rw [hev] at hst
    have hA₁ : Aside O r w₁ := hasd.wide h₁.size
    have hes : ∀ e ∈ seen Try.prog fr.fn es, EvOk r' e := fun e he => e7 e (mem_seen he)
    refine ⟨⟨O.add r', xd, G (c.finish (passV T p)) cs, W'⟩, ⟨_, hst, ?_, fun e he => hEv _ _ _ (hes e he) (fun b B hb => .inr ⟨b, hb⟩), ?_⟩, ?_⟩
    · refine ⟨e5.size, e5.tape, e5.os, e5.output, ?_, fun _ _ h => h, fun _ h => h, ?_, ?_, e5.shape⟩
      · rintro B (hB | ⟨b, hb⟩)
        · exact .inl (.inl hB)
        · rcases e6 b B hb with h0 | ⟨_, h0⟩
          · exact .inl (.inr ⟨b, h0⟩)
          · exact .inr ⟨h0, (e4.lt hb).2⟩
      · intro B hB hn _
        exact e5.rest B hB fun b hb => hn (.inr ⟨b, hb⟩)
      · intro B o hB hn _
        have := e5.rest B hB fun b hb => hn (.inr ⟨b, hb⟩)
        unfold World.cell?
        dsimp only at this ⊢
        rw [this]
    · refine (deafBehind_still (fun e he => ?_) xd).symm
      have := hes e he
      unfold EvOk at this
      constructor <;> (intro hx; rw [hx] at this; exact this)
    · have hsub' : Sub (idOn S) r' := hsub.trans e2
      have hgg : r' g g := hsub' _ _ ⟨rfl, h.ten.sg⟩
      have hpp : r' hp hp := hsub' _ _ ⟨rfl, h.ten.shp⟩
      have hii : r' hi hi := hsub' _ _ ⟨rfl, h.ten.shi⟩
      obtain ⟨hp', hi', L', rp, ri, hT'⟩ := tenR_ren e3 e4 (tenR_tp hT w₁.tape w₁.drawn) hgg
      obtain rfl := e3.fn _ _ _ rp hpp
      obtain rfl := e3.fn _ _ _ ri hii
      rw [← add_ran]
      refine hk W' (ran r') L' ⟨hT', e4.norm⟩ (fun b hb => ⟨b, hsub' _ _ ⟨rfl, hb⟩⟩) ?_ ?_ ((hrel.trans (h₁.less (fun _ x => .inl x) (fun _ _ x => x) (fun _ x => x))).trans (e5.rely hA₁))
      · rintro b ⟨x, hx⟩
        rcases e6 x b hx with h0 | ⟨_, h0⟩
        · rcases hfr x b h0 with ⟨rfl, y⟩ | y
          · exact .inl y
          · exact .inr y
        · exact .inr (Nat.le_trans hrel.size (Nat.le_trans h₁.size h0))
      have hg := hA₁.grow e6 e5.size
      exact ⟨fun b hb => ⟨(hg.B b hb).1, fun a ⟨_, ha⟩ => (by rename_i x; obtain ⟨q, hq⟩ := ha; exact (hg.B b hb).2 q (x ▸ hq))⟩, fun b o hb => ⟨(hg.C b o hb).1, fun a ⟨_, ha⟩ => (by rename_i x; obtain ⟨q, hq⟩ := ha; exact (hg.C b o hb).2 q (x ▸ hq))⟩, fun b hb => ⟨(hg.X b hb).1, fun a ⟨_, ha⟩ => (by rename_i x; obtain ⟨q, hq⟩ := ha; exact (hg.X b hb).2 q (x ▸ hq))⟩⟩

end
end Go.Proofs.Ytgpplekabohneaa.Co

namespace Go.Proofs.Ytgpplekabohneaa.Co
open Go Go.Conc Go.ConcN Go.RowKit

section
variable {w W : World} {T : Nat → Question → Nat} {d d' : Nat} {F : Nat → Prop} {b : Nat} {B : List (Int × Tn)}

theorem boxR_tp (h : BoxR w F b B) (T : Nat → Question → Nat) (d : Nat) : BoxR (tp w T d) F b B := by
  obtain ⟨r, C, h1, h2, h3, h4⟩ := h
  exact ⟨r, C, ⟨h1.blk, h1.map, fun x hx => ⟨tenR_tp (h1.ten x hx).1 T d, (h1.ten x hx).2⟩, h1.apart⟩, h2, h3, h4⟩
theorem fr_tp {X : Nat → Prop} (h : Fr X w W) (T : Nat → Question → Nat) (d d' : Nat) : Fr X (tp w T d) (tp W T d') := ⟨h.os, rfl, h.output, h.size, h.block⟩
theorem below_tp {n : Nat} (h : Below n w W) (T : Nat → Question → Nat) (d d' : Nat) : Below n (tp w T d) (tp W T d') := ⟨h.os, rfl, h.output, h.size, h.block⟩
theorem st_tp (h : St w W F b B) (T : Nat → Question → Nat) (d d' : Nat) : St (tp w T d) (tp W T d') F b B := ⟨boxR_tp h.box T d', h.base, fr_tp h.fr T d d'⟩
theorem two_tp {F1 F2 : Nat → Prop} {b1 b2 : Nat} {B1 B2 : List (Int × Tn)} (h : Two w W F1 F2 b1 b2 B1 B2) (T : Nat → Question → Nat) (d d' : Nat) : Two (tp w T d) (tp W T d') F1 F2 b1 b2 B1 B2 := ⟨st_tp h.st1 T d d', st_tp h.st2 T d d', h.dis⟩
end

/-- The pieces of 'Batched'. -/
def c12 (i : Nat) (F : Func := Try.f12) : Code := restC (F.body.getD .skip) i
def h12 (i : Nat) (F : Func := Try.f12) : Code := fstC (c12 i F)
theorem c12_0 : c12 0 = .seq (h12 0) (c12 1) := by kernel_rfl
theorem c12_1 : c12 1 = .seq (h12 1) (c12 2) := by kernel_rfl
theorem c12_2 : c12 2 = .seq (h12 2) (c12 3) := by kernel_rfl
theorem c12_3 : c12 3 = .seq (h12 3) (c12 4) := by kernel_rfl
theorem c12_4 : c12 4 = .seq (h12 4) (c12 5) := by kernel_rfl
theorem c12_5 : c12 5 = .seq (h12 5) (c12 6) := by kernel_rfl
theorem c12_6 : c12 6 = .seq (h12 6) (c12 7) := by kernel_rfl
theorem c12_7 : c12 7 = .seq (h12 7) (c12 8) := by kernel_rfl
theorem c12_8 : c12 8 = .seq (h12 8) (c12 9) := by kernel_rfl
theorem c12_9 : c12 9 = .seq (h12 9) (c12 10) := by kernel_rfl
theorem c12_10 : c12 10 = .seq (h12 10) (c12 11) := by kernel_rfl
theorem c12_11 : c12 11 = .seq (h12 11) (c12 12) := by kernel_rfl
theorem c12_12 : c12 12 = .seq (h12 12) .ret := by kernel_rfl

def codes12 : List Nat := [0, 1, 2, 3, 4, 5, 6, 8, 9, 11, 12]
theorem codes12_all : (codes12.all fun i => codeB2 Try.prog tFns (h12 i)) = true := by kernel_rfl
theorem h12_ok (i : Nat) (hi : i ∈ codes12) : CodeOk2 Try.prog TF (h12 i) := by
  have := codes12_all
  rw [List.all_eq_true] at this
  exact codeB2_sound (this i hi)

theorem enter12 (args : Array Value) : Frame.enter Try.prog 12 args .normal = (noF 12).at ⟨args ++ Array.replicate (Try.f12.ntmps - args.size) undef, []⟩ [.code (c12 0)] :=
  enter_at2 Try.func12 rfl args

end Go.Proofs.Ytgpplekabohneaa.Co

namespace Go.Proofs.Ytgpplekabohneaa.Co
open Go Go.Conc Go.ConcN Go.RowKit

theorem info38b : (Try.prog.info? 38).map (fun i => (i.zero, i.size, i.bytes)) = some (some (.agg (pkC pk0)), 15, 96) := by kernel_rfl

def pksC (l : List Pk) : List Value := l.flatMap fun p => (pkC p).toList

section
variable {Shun : Loc → Prop} {K D : Nat → Prop} {Z : Nat → Option Obj} {Tp : Nat → Trace → Prop} {nn : Nat} {m : Machine} {t : Trace} {R : Machine → Trace → Prop}

theorem Be.untp {P : Program} {fr : Frame} {cs : List Frame} {w : World} {T : Nat → Question → Nat} {d : Nat} (h : Be P Shun K D Z Tp nn fr cs (tp w T d) m t) : Be P Shun K D Z Tp nn fr cs w m t := by
  obtain ⟨Y, gs, sl, q, h1, h2, h3, h4, h5⟩ := h.out
  exact ⟨Y, gs, sl, q, h1, h2, h3, h4, h5⟩

/-- What holds when the list of packets is made. -/
structure Made (w W : World) (b1 b2 : Nat) (s : Int) (lv : Value) (ps : List Pk) : Prop where
  two : ∃ T d F1 F2, Two (tp w T d) W F1 F2 b1 b2 (boxB (99 + s)) (boxB (99 + s)) ∧ ∃ base, W.ownsRow base 38 15 lv ps.length (pksC ps) ∧ ∀ g, lv.ownBlock = some g → ¬ F1 g ∧ ¬ F2 g ∧ w.heap.size ≤ g
  ok : ∀ p ∈ ps, PktOk p
  len : ps.length ≤ 200
  s1 : 1 ≤ s
  s5 : s ≤ 5

theorem pksC_snoc (l : List Pk) (p : Pk) : pksC (l ++ [p]) = pksC l ++ (pkC p).toList := by simp [pksC]

theorem rowKeep {w w' : World} {base : Nat} {e : TypeId} {size : Nat} {v : Value} {n : Nat} {xs : List Value} (h : w.ownsRow base e size v n xs) (hb : Below w.heap.size w w') : w'.ownsRow base e size v n xs :=
  h.kept (row := none) ⟨hb.os, hb.tape, hb.output, hb.size, fun k hk _ => hb.block k hk⟩ (by cases v.ownBlock <;> simp)

theorem made {w u wr : World} {T : Nat → Question → Nat} {d b1 b2 j : Nat} {s : Int} {lv : Value} {ps : List Pk} (h : ∃ F1 F2, Two (tp w T d) u F1 F2 b1 b2 (boxB (99 + s)) (boxB (99 + s))) (ho : wr.ownsRow u.heap.size 38 15 lv j (pksC ps)) (hb : Below u.heap.size u wr) (hp : ∀ p ∈ ps, PktOk p) (hl : ps.length = j) (hj : j ≤ 200) (h1 : 1 ≤ s) (h5 : s ≤ 5) : Made w wr b1 b2 s lv ps := by
  obtain ⟨F1, F2, h2⟩ := h
  subst hl
  refine ⟨⟨T, d, F1, F2, h2.new hb, u.heap.size, ho, fun g hg => ?_⟩, hp, hj, h1, h5⟩
  have := (ho.lt g hg).1
  have e : (tp w T d).heap.size = w.heap.size := rfl
  exact ⟨fun hk => by have := h2.st1.lt g hk; omega, fun hk => by have := h2.st2.lt g hk; omega, by have := h2.st1.fr.size; omega⟩

set_option maxHeartbeats 16000000 in
set_option maxRecDepth 100000 in
theorem phase1 (E : Env Try.prog TF Shun K nn Tp (noF 12)) {w : World} (a : Option Addr) (n cap : Nat) (l : List Ev) (size : Int) (hA : EvArg w a n cap l) (hs : Hid (R64 size))
    (hnext : Hid (∀ (a' : Go.Act) (W : World) (b1 b2 : Nat) (s : Int) (lv : Value) (ps : List Pk), a'.defers = [] → a'.tmps.size = 149 → a'.tmps.getD 5 undef = .pointer (some ⟨b1, 0, none⟩) → a'.tmps.getD 6 undef = .pointer (some ⟨b2, 0, none⟩) → a'.tmps.getD 7 undef = lv → Made w W b1 b2 s lv ps →
      ∀ m t, Be Try.prog Shun K D Z Tp nn ((noF 12).at a' [.code (c12 7)]) [] W m t → Reaches Try.prog m t R))
    (hb : Be Try.prog Shun K D Z Tp nn (Frame.enter Try.prog 12 #[.slice a n cap, .int .i64 size] .normal) [] w m t) : Reaches Try.prog m t R := by
  obtain ⟨i0, hi0, hz0, hz1, hz2⟩ := info_parts info38b
  have HI := hide (And.intro hi0 (And.intro hz0 (And.intro hz1 hz2)))
  clear hi0 hz0 hz1 hz2
  rw [enter12, c12_0] at hb
  simp only [Try.ntmps12, List.size_toArray, List.length_cons, List.length_nil, Nat.reduceAdd, Nat.reduceSub, Array.replicate_succ, Array.replicate_zero, List.push_toArray, List.append_toArray, List.nil_append, List.cons_append] at hb
  refine hb.walk E (h12_ok 0 (by decide)) rfl fun T d Q hQ => ?_
  clear hb
  simp only [h12, fstC, c12, restC, Try.f12, Option.getD_some]
  go_wp2_with fail
  intro m t hb
  replace hb := hb.untp
  clear T d
  rw [c12_1] at hb
  refine hb.walk E (h12_ok 1 (by decide)) rfl fun T d Q hQ => ?_
  clear hb
  simp only [h12, fstC, c12, restC, sndC, Try.f12, Option.getD_some]
  go_wp2_with fail
  refine (pick_in size 5 _ hs (by decide) (by decide)).mono ?_
  rintro e wx ⟨s, hs5, rfl, hw⟩
  symm at hw
  subst hw
  have hs0 : 0 ≤ s := hs5.1
  have hs1 : s ≤ 4 := by omega
  clear hs5
  go_wp2_with fail
  intro m t hb
  replace hb := hb.untp
  clear T d
  rw [c12_2] at hb
  refine hb.walk E (h12_ok 2 (by decide)) rfl fun T d Q hQ => ?_
  clear hb
  simp only [h12, fstC, c12, restC, sndC, Try.f12, Option.getD_some]
  go_wp2_with fail
  refine (box_any (1 + s) (tp w T d) (by omega) (by omega)).mono ?_
  rintro e w1 ⟨b1, rfl, hB1, hb1⟩
  have HB1 := hide (And.intro hB1 hb1)
  clear hB1 hb1
  go_wp2_with fail
  intro m t hb
  rw [c12_3] at hb
  refine hb.walk E (h12_ok 3 (by decide)) rfl fun T2 d2 Q hQ => ?_
  clear hb
  simp only [h12, fstC, c12, restC, sndC, Try.f12, Option.getD_some]
  go_wp2_with fail
  refine (box_any (1 + s) (tp w1 T2 d2) (by omega) (by omega)).mono ?_
  rintro e w2 ⟨b2, rfl, hB2, hb2⟩
  have HS : Hid (∃ F1 F2, Two (tp w T2 d2) w2 F1 F2 b1 b2 (boxB (99 + (1 + s))) (boxB (99 + (1 + s)))) := by
    have hB1 := boxR_tp (unhide HB1).1 T2 d2
    have hb1 : Below w.heap.size (tp w T2 d2) (tp w1 T2 d2) := below_tp (unhide HB1).2 T2 d2 d2
    refine ⟨_, _, St.new ⟨hB1, fun k hk => hk.1, Fr.of_below hb1⟩ hb2, ⟨hB2, fun k hk => by have := hb1.size; have := hk.1; omega, (Fr.of_below hb1).trans (Fr.of_below hb2)⟩, ?_⟩
    intro k h1 h2
    have := h1.2
    have := h2.1
    have e : (tp w1 T2 d2).heap.size = w1.heap.size := rfl
    omega
  clear hB2 hb2 HB1
  go_wp2_with fail
  intro m t hb
  rw [c12_4] at hb
  refine hb.walk E (h12_ok 4 (by decide)) rfl fun T3 d3 Q hQ => ?_
  clear hb
  simp only [h12, fstC, c12, restC, sndC, Try.f12, Option.getD_some]
  go_wp2_with fail
  intro m t hb
  replace hb := hb.untp
  clear T3 d3
  rw [c12_5] at hb
  refine hb.walk E (h12_ok 5 (by decide)) rfl fun T3 d3 Q hQ => ?_
  clear hb
  simp only [h12, fstC, c12, restC, sndC, Try.f12, Option.getD_some]
  go_wp2_with fail
  intro m t hb
  replace hb := hb.untp
  clear T3 d3
  rw [c12_6] at hb
  refine hb.walk E (h12_ok 6 (by decide)) rfl fun T3 d3 Q hQ => ?_
  clear hb
  simp only [h12, fstC, c12, restC, sndC, Try.f12, Option.getD_some]
  go_wp2_with fail
  have HU : Hid (∃ F1 F2, Two (tp w T3 d3) (tp w2 T3 d3) F1 F2 b1 b2 (boxB (99 + (1 + s))) (boxB (99 + (1 + s)))) := by
    obtain ⟨F1, F2, h⟩ := unhide HS
    exact ⟨F1, F2, two_tp h T3 d3 d3⟩
  obtain ⟨hn, hc, hm, hE⟩ := hA
  have HN := hide hn
  have HE : Hid (0 < n → ∃ b off, a = some ⟨b, off, none⟩ ∧ b < w.heap.size ∧ EvAt (tp w T3 d3) b off l) := hE
  unfold maxLen at hm
  clear hn hE HS
  generalize tp w2 T3 d3 = u at HU ⊢
  go_loopg [7, 8] n (fun k lv i wr => ∃ j : Nat, j ≤ n ∧ j ≤ 200 ∧ k = n - j ∧ i = .int .i64 j ∧ ∃ ps : List Pk, ps.length = j ∧ (∀ p ∈ ps, PktOk p) ∧ wr.ownsRow u.heap.size 38 15 lv j (pksC ps) ∧ Below u.heap.size u wr)
  case atStart => exact ⟨0, Nat.zero_le _, by omega, by omega, rfl, [], rfl, by simp, World.ownsRow_nil _ _ _ _, Below.refl _ _⟩
  case round =>
    obtain ⟨j, hj, hj2, hk, rfl, ps, hps, hok, hown, hbl⟩ := hrel
    have HK := hide hk
    have HO := hide hown
    have HB := hide hbl
    have HP := hide hok
    have hsz := hbl.size
    clear hk hown hbl hok
    by_cases hlt : j < n
    · by_cases hl2 : j < 200
      · obtain ⟨eb, off, rfl, heb, hEv⟩ := unhide HE (by omega)
        have hbw : Below w.heap.size (tp w T3 d3) wr := by
          obtain ⟨F1, F2, h2⟩ := unhide HU
          exact h2.st1.below.trans ((unhide HB).mono h2.st1.below.size)
        obtain ⟨⟨c0, c1, c2, c3, c4⟩, r0, r1, r2, r3, r4⟩ := (hEv.below hbw heb) j (by have := unhide HN; omega)
        have hebr : eb < wr.heap.size := by have := hbw.size; have : (tp w T3 d3).heap.size = w.heap.size := rfl; omega
        have hjl : j < l.length := by have := unhide HN; omega
        generalize l[j].k = ek at *
        generalize l[j].t = et at *
        generalize l[j].a = ea at *
        generalize l[j].b = ebb at *
        generalize l[j].c = ec at *
        have R0 := hide r0
        have R1 := hide r1
        have R2 := hide r2
        have R3 := hide r3
        have R4 := hide r4
        clear r0 r1 r2 r3 r4 hEv hbw HE
        go_wp2_with fail
        refine (packet_any ek et ea ebb ec _ R0 R1 R2 R3 R4).mono ?_
        rintro e w3 ⟨p, hp, rfl, hb3⟩
        have HP3 := hide hp
        have HB3 := hide hb3
        have hs3 := hb3.size
        have HO3 : Hid (w3.ownsRow u.heap.size 38 15 u7 j (pksC ps)) := rowKeep (unhide HO) hb3
        clear hp hb3 HO c0 c1 c2 c3 c4 R0 R1 R2 R3 R4
        obtain ⟨tg, proto, out, sa, sp, da, dp, syn, fin, rst, err, qsa, qsp, qda, qdp⟩ := p
        dsimp only [pkC]
        go_wp2_with (at_builtin; go_loud (refine wpList_append_x _ (by rfl) _ _ 57 (by rfl) u.heap.size 38 i0 _ 15 96 Try.underlying57 (unhide HI).1 (unhide HI).2.1 (unhide HI).2.2.1 (unhide HI).2.2.2 (by rfl) (by decide) u7 j (pksC ps) (by rfl) (by exact (unhide HO3).alloc _) ⟨w3.heap.size, 0, none⟩ 1 1 [.int .i64 tg, .int .i64 proto, .bool out, .int .i64 sa, .int .i64 sp, .int .i64 da, .int .i64 dp, .bool syn, .bool fin, .bool rst, .bool err, .int .i64 qsa, .int .i64 qsp, .int .i64 qda, .int .i64 qdp] (by rfl) (by rfl) (World.news_of_block (by exact blkN w3 _ _ rfl)) (by simp [Value.oneCell']) (by omega) (by unfold maxLen; omega) (by omega) (by simp; omega) ?_; intro g2 cap2 w4 hO4 hG4; have HO4 := hide (And.intro hO4 hG4); clear hO4 hG4))
        go_roundg (n - (j + 1))
        case measure => have := unhide HK; omega
        case rel =>
          obtain ⟨hO4, hG4⟩ := unhide HO4
          refine ⟨j + 1, by omega, by omega, rfl, by go_num, ps ++ [⟨tg, proto, out, sa, sp, da, dp, syn, fin, rst, err, qsa, qsp, qda, qdp⟩], by simp [hps], ?_, ?_, ?_⟩
          · intro p hp
            rcases List.mem_append.1 hp with h | h
            · exact unhide HP p h
            · rw [List.mem_singleton.1 h]; exact unhide HP3
          · rw [pksC_snoc]; exact hO4
          · have hb' := ((unhide HB).trans ((unhide HB3).mono hsz)).alloc (by omega) (.cells (pkC ⟨tg, proto, out, sa, sp, da, dp, syn, fin, rst, err, qsa, qsp, qda, qdp⟩) 38)
            rcases hG4 with ⟨h5, h6⟩ | ⟨h5, h6⟩
            · exact hb'.grown h6 (by simp; omega) (fun k hk => by cases hk; exact ((unhide HO3).lt _ h5).1)
            · exact hb'.grown h6 (by simp; omega) (fun k hk => by cases hk)
      · have hl2' : j = 200 := by omega
        have HX : Hid (∀ (a' : Go.Act), a'.defers = [] → a'.tmps.size = 149 → a'.tmps.getD 5 undef = .pointer (some ⟨b1, 0, none⟩) → a'.tmps.getD 6 undef = .pointer (some ⟨b2, 0, none⟩) → a'.tmps.getD 7 undef = u7 → ∀ m t, Be Try.prog Shun K D Z Tp nn ((noF 12).at a' [.code (c12 7)]) [] wr m t → Reaches Try.prog m t R) := by
          intro a' e1 e2 e3 e4 e5
          exact unhide hnext a' wr b1 b2 (1 + s) u7 ps e1 e2 e3 e4 e5 (made (unhide HU) (unhide HO) (unhide HB) (unhide HP) hps hj2 (by omega) (by omega))
        clear HU HO HB HP HK HE HI hnext
        subst hl2'
        as_aux_lemma =>
          go_wp2_with fail
          intro m t hb
          exact unhide HX _ rfl rfl rfl rfl rfl m t hb
    · have hjn : j = n := by omega
      have HX : Hid (∀ (a' : Go.Act), a'.defers = [] → a'.tmps.size = 149 → a'.tmps.getD 5 undef = .pointer (some ⟨b1, 0, none⟩) → a'.tmps.getD 6 undef = .pointer (some ⟨b2, 0, none⟩) → a'.tmps.getD 7 undef = u7 → ∀ m t, Be Try.prog Shun K D Z Tp nn ((noF 12).at a' [.code (c12 7)]) [] wr m t → Reaches Try.prog m t R) := by
        intro a' e1 e2 e3 e4 e5
        exact unhide hnext a' wr b1 b2 (1 + s) u7 ps e1 e2 e3 e4 e5 (made (unhide HU) (unhide HO) (unhide HB) (unhide HP) hps hj2 (by omega) (by omega))
      clear HU HO HB HP HK HE HI hnext
      subst hjn
      as_aux_lemma =>
        go_wp2_with fail
        intro m t hb
        exact unhide HX _ rfl rfl rfl rfl rfl m t hb
end
end Go.Proofs.Ytgpplekabohneaa.Co
