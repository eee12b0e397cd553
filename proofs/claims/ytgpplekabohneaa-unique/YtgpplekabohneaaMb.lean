/- What has passed out comes back, and errors about it; nothing else. -/
import Derived.Test.YtgpplekabohneaaMa
import Derived.Laws.Tables
namespace Go.Proofs.Ytgpplekabohneaa
open Go.RowKit

/-- a mapping of an inner end at a port, with a peer -/
def Has (T : Tn) (proto ia ip port peer : Int) : Prop := ∃ m ∈ T.maps, m.proto = proto ∧ m.ia = ia ∧ m.ip = ip ∧ m.port = port ∧ peer ∈ m.peers

theorem inF_out {T T' : Tn} {p q : Pk} (h : inF T p = (T', q, 0)) : q.out = p.out := by
  unfold inF at h
  split at h
  · split at h
    · cases h
    · split at h
      · cases h
        rfl
      · cases h
  · cases h

theorem outW_passed {T T' : Tn} {m : Mp} {p q : Pk} (h : outW T m p = (T', q, 0)) (hq : q.out = true) : p.da ≠ T.outer ∧ q = { p with sa := T.outer, sp := m.port } ∧ T' = { T with maps := setM T.maps (useM m p) } := by
  unfold outW at h
  split at h
  · have := inF_out h
    rw [hq] at this
    cases this
  · rename_i e
    cases h
    exact ⟨e, rfl, rfl⟩

theorem outW_has {T T' : Tn} {m : Mp} {p q : Pk} (hm : m ∈ T.maps) (hp : m.proto = p.proto) (hi : m.ia = p.sa ∧ m.ip = p.sp) (h : outW T m p = (T', q, 0)) (hq : q.out = true) :
    q = { p with sa := T.outer, sp := m.port } ∧ Has T' p.proto p.sa p.sp m.port p.da ∧ T'.outer = T.outer := by
  obtain ⟨_, h2, rfl⟩ := outW_passed h hq
  have hs := useM_same m p
  refine ⟨h2, ⟨useM m p, mem_setM hm hs.1.symm hs.2.2.2.symm, hs.1.trans hp, hs.2.1.trans hi.1, hs.2.2.1.trans hi.2, hs.2.2.2, ?_⟩, rfl⟩
  rw [useM_peers]
  exact useF_has _ _

theorem outF_has {T T' : Tn} {p q : Pk} (hG : GoodT T) (h : outF T p = (T', q, 0)) (hq : q.out = true) :
    ∃ port, T.low ≤ port ∧ port ≤ T.high ∧ q = { p with sa := T.outer, sp := port } ∧ Has T' p.proto p.sa p.sp port p.da ∧ T'.outer = T.outer := by
  unfold outF at h
  split at h
  · rename_i m hm
    have hk := isI_iff.1 (List.find?_some hm)
    have hmm := List.mem_of_find?_eq_some hm
    have ho := hG.ok m hmm
    exact ⟨m.port, ho.2.2.1, ho.2.2.2.1, outW_has hmm hk.1 hk.2 h hq⟩
  · split at h
    · cases h
    · split at h
      · cases h
      · rename_i r hr
        have hf := freeF_some hr
        have hle := hG.le
        exact ⟨r, hf.1, by omega, outW_has (T := { T with maps := T.maps ++ [newM p.proto p.sa p.sp r] }) (m := newM p.proto p.sa p.sp r) (by simp) rfl ⟨rfl, rfl⟩ h hq⟩

theorem find_has {T : Tn} (hG : GoodT T) {proto ia ip port peer : Int} (hH : Has T proto ia ip port peer) : ∃ m, T.maps.find? (isP proto port) = some m ∧ m ∈ T.maps ∧ m.proto = proto ∧ m.ia = ia ∧ m.ip = ip ∧ m.port = port ∧ peer ∈ m.peers := by
  obtain ⟨m, hm, h1, h2, h3, h4, h5⟩ := hH
  exact ⟨m, findP_of hG.apart hm h1 h4, hm, h1, h2, h3, h4, h5⟩

theorem in_has {T : Tn} {p : Pk} (hG : GoodT T) {proto ia ip port peer : Int} (hH : Has T proto ia ip port peer) (h1 : p.proto = proto) (h2 : p.da = T.outer) (h3 : p.dp = port) (h4 : p.sa = peer) :
    ∃ T', inF T p = (T', { p with da := ia, dp := ip }, 0) ∧ Has T' proto ia ip port peer ∧ T'.outer = T.outer := by
  obtain ⟨m, hf, hm, m1, m2, m3, m4, m5⟩ := find_has hG hH
  unfold inF
  rw [if_pos h2, h1, h3, hf]
  dsimp only
  rw [if_pos (by simpa [h4] using m5), m2, m3]
  refine ⟨_, rfl, ?_, rfl⟩
  split
  · have hs := marksF_same m p.out p.syn p.fin p.rst
    refine ⟨{ marksF m p.out p.syn p.fin p.rst with idle := 0 }, mem_setM hm hs.1.symm hs.2.2.2.symm, hs.1.trans m1, hs.2.1.trans m2, hs.2.2.1.trans m3, hs.2.2.2.trans m4, ?_⟩
    show peer ∈ (marksF m p.out p.syn p.fin p.rst).peers
    rw [marksF_peers]
    exact m5
  · exact ⟨m, hm, m1, m2, m3, m4, m5⟩

theorem in_strange {T : Tn} {p : Pk} (hG : GoodT T) {proto ia ip port peer : Int} (hH : Has T proto ia ip port peer) (h1 : p.proto = proto) (h2 : p.da = T.outer) (h3 : p.dp = port) (h4 : ∀ m ∈ T.maps, p.sa ∉ m.peers) : inF T p = (T, pk0, 5) := by
  obtain ⟨m, hf, hm, m1, m2, m3, m4, m5⟩ := find_has hG hH
  unfold inF
  rw [if_pos h2, h1, h3, hf]
  dsimp only
  rw [if_neg (by simpa using h4 m hm)]

theorem err_has {T : Tn} {p : Pk} (hG : GoodT T) {proto ia ip port peer : Int} (hH : Has T proto ia ip port peer) (h1 : p.proto = proto) (h2 : p.qsa = T.outer) (h3 : p.qsp = port) (h4 : p.da = T.outer) (h5 : p.qda = peer) :
    errInF T p = ({ p with da := ia, qsa := ia, qsp := ip }, 0) := by
  obtain ⟨m, hf, hm, m1, m2, m3, m4, m5⟩ := find_has hG hH
  unfold errInF
  rw [if_pos h2, h1, h3, hf]
  dsimp only
  rw [if_pos h4, if_pos (by simpa [h5] using m5), m2, m3]

def HasB (B : List (Int × Tn)) (o tag proto ia ip port peer : Int) : Prop := ∃ T, B.find? (isT tag) = some (tag, T) ∧ T.outer = o ∧ Has T proto ia ip port peer

theorem endB_of {a p : Int} (h1 : 0 ≤ a) (h2 : a ≤ 4294967295) (h3 : 0 ≤ p) (h4 : p ≤ 65535) : endB a p = true := by
  unfold endB
  simp only [decide_eq_true_eq]
  omega

theorem goodB_ends {p : Pk} (h : goodB p = true) : (1 ≤ p.proto ∧ p.proto ≤ 3) ∧ (0 ≤ p.sa ∧ p.sa ≤ 4294967295 ∧ 0 ≤ p.sp ∧ p.sp ≤ 65535) ∧ (0 ≤ p.da ∧ p.da ≤ 4294967295 ∧ 0 ≤ p.dp ∧ p.dp ≤ 65535) := by
  unfold goodB endB at h
  simp only [Bool.and_eq_true, decide_eq_true_eq] at h
  exact ⟨h.1.1.1.1, h.1.1.1.2, h.1.1.2⟩

theorem back_out {s : Int} {B B' : List (Int × Tn)} {p q : Pk} (hs : s ≤ 64) (hI : InvB s B) (hG : ∀ x ∈ B, GoodT x.2) (hp : PktOk p) (h : passB B p = (B', q, 0, 0)) (ho : p.out = true) (he : p.err = false) (hq : q.out = true) :
    ∃ port, 100 ≤ port ∧ port ≤ 163 ∧ q = { p with sa := 1000 * p.tag, sp := port } ∧ HasB B' (1000 * p.tag) p.tag p.proto p.sa p.sp port p.da := by
  obtain ⟨T, hf, hT⟩ := hI.find hp.tag.1 hp.tag.2
  rw [passB_eq hp.good hf] at h
  have e1 : passF T p = outF T p := by unfold passF; rw [if_neg (by simp [he]), if_pos ho]
  rw [e1] at h
  have hgt := hG _ (List.mem_of_find?_eq_some hf)
  have e2 : outF T p = ((outF T p).1, q, 0) := by
    have a1 := congrArg (fun x => x.2.1) h
    have a2 := congrArg (fun x => x.2.2.1) h
    dsimp only at a1 a2
    rw [← a1, ← a2]
  obtain ⟨port, p1, p2, p3, p4, p5⟩ := outF_has hgt e2 hq
  have hB' : B' = putT B p.tag (outF T p).1 := (congrArg (fun x => x.1) h).symm
  refine ⟨port, by rw [hT.low] at p1; exact p1, by rw [hT.high] at p2; omega, by rw [p3, hT.outer], (outF T p).1, by rw [hB']; exact find_putT hf, p5.trans hT.outer, p4⟩

/-- what 'answer' makes of the packet that has gone on; the error; the stranger's packet -/
def bkA (o tag proto da dp port : Int) : Pk := ⟨tag, proto, false, da, dp, o, port, false, false, false, false, 0, 0, 0, 0⟩
def bkR (tag proto da dp sa sp : Int) : Pk := ⟨tag, proto, false, da, dp, sa, sp, false, false, false, false, 0, 0, 0, 0⟩
def bkE (o tag proto da dp port : Int) : Pk := ⟨tag, proto, false, 77, 7, o, port, false, false, false, true, o, port, da, dp⟩
def bkX (tag proto da dp port sa sp : Int) : Pk := ⟨tag, proto, false, 77, 7, sa, port, false, false, false, true, sa, sp, da, dp⟩

theorem back_good {o tag proto da dp port : Int} (ht : 0 ≤ o ∧ o ≤ 3000) (hpr : 1 ≤ proto ∧ proto ≤ 3) (hd : 0 ≤ da ∧ da ≤ 4294967295 ∧ 0 ≤ dp ∧ dp ≤ 65535) (hpt : 100 ≤ port ∧ port ≤ 163) : goodB (bkA o tag proto da dp port) = true ∧ goodB (bkE o tag proto da dp port) = true := by
  have e1 := endB_of hd.1 hd.2.1 hd.2.2.1 hd.2.2.2
  have e2 : endB o port = true := endB_of (by omega) (by omega) (by omega) (by omega)
  have e3 : endB 77 7 = true := rfl
  have e4 : decide (1 ≤ proto ∧ proto ≤ 3) = true := by simpa using hpr
  constructor
  · unfold goodB bkA quoteB markB
    dsimp only
    rw [e1, e2, e4]
    simp
  · unfold goodB bkE quoteB markB
    dsimp only
    rw [e1, e2, e3, e4]
    simp

theorem back_ans {B : List (Int × Tn)} {o tag proto sa sp da dp port : Int} (hG : ∀ x ∈ B, GoodT x.2) (hH : HasB B o tag proto sa sp port da) (hg : goodB (bkA o tag proto da dp port) = true) :
    ∃ B', passB B (bkA o tag proto da dp port) = (B', bkR tag proto da dp sa sp, 0, 0) ∧ HasB B' o tag proto sa sp port da := by
  obtain ⟨T, hf, ho, hH⟩ := hH
  obtain ⟨T', e1, e2, e3⟩ := in_has (p := bkA o tag proto da dp port) (hG _ (List.mem_of_find?_eq_some hf)) hH rfl ho.symm rfl rfl
  have e4 : passF T (bkA o tag proto da dp port) = inF T (bkA o tag proto da dp port) := rfl
  rw [passB_eq (p := bkA o tag proto da dp port) hg hf, e4, e1]
  exact ⟨_, rfl, T', find_putT hf, e3.trans ho, e2⟩

theorem back_err {B : List (Int × Tn)} {o tag proto sa sp da dp port : Int} (hG : ∀ x ∈ B, GoodT x.2) (hH : HasB B o tag proto sa sp port da) (hg : goodB (bkE o tag proto da dp port) = true) :
    ∃ B', passB B (bkE o tag proto da dp port) = (B', bkX tag proto da dp port sa sp, 0, 0) ∧ HasB B' o tag proto sa sp port da := by
  obtain ⟨T, hf, ho, hH⟩ := hH
  have e1 := err_has (p := bkE o tag proto da dp port) (hG _ (List.mem_of_find?_eq_some hf)) hH rfl ho.symm rfl ho.symm rfl
  have e4 : passF T (bkE o tag proto da dp port) = (T, errInF T (bkE o tag proto da dp port)) := rfl
  rw [passB_eq (p := bkE o tag proto da dp port) hg hf, e4, e1]
  exact ⟨_, rfl, T, find_putT hf, ho, hH⟩

theorem back_strange {s : Int} {B : List (Int × Tn)} {o tag proto sa sp da dp port : Int} (hI : InvB s B) (hG : ∀ x ∈ B, GoodT x.2) (hH : HasB B o tag proto sa sp port da) (hg : goodB (bkA o tag proto 4294967295 dp port) = true) :
    ∃ B', passB B (bkA o tag proto 4294967295 dp port) = (B', pk0, 5, 0) := by
  obtain ⟨T, hf, ho, hH⟩ := hH
  have hT := hI.ten _ (List.mem_of_find?_eq_some hf)
  have e1 := in_strange (p := bkA o tag proto 4294967295 dp port) (hG _ (List.mem_of_find?_eq_some hf)) hH rfl ho.symm rfl (fun m hm hc => by
    have := (hT.pm m hm).1 _ hc
    simp [bkA] at this)
  have e4 : passF T (bkA o tag proto 4294967295 dp port) = inF T (bkA o tag proto 4294967295 dp port) := rfl
  rw [passB_eq (p := bkA o tag proto 4294967295 dp port) hg hf, e4, e1]
  exact ⟨_, rfl⟩

/-- the error that 'Back' builds -/
theorem wpList_bk {ops : Array Oper} {rest : List Oper} {o : Oper} {a : Act} {w : World} {Q : Exit → Act → World → Prop} (hg : o.guard = none) (x0 x1 x3 x4 x8 x9 : Operand) (ho : o.op = .build 38 #[(0, x0), (1, x1), (3, x3), (4, x4), (8, x8), (9, x9)]) (tag proto c1 c2 c3 c4 c5 c6 : Int)
    (h0 : a.eval x0 = .int .i64 tag) (h1 : a.eval x1 = .int .i64 proto) (h3 : a.eval x3 = .agg #[.int .i64 77, .int .i64 7]) (h4 : a.eval x4 = .agg #[.int .i64 c1, .int .i64 c2]) (h8 : a.eval x8 = .bool true) (h9 : a.eval x9 = .agg #[.int .i64 c3, .int .i64 c4, .int .i64 c5, .int .i64 c6])
    (h : wpList Try.prog ops Q rest (a.put o.dst (.agg #[.int .i64 tag, .int .i64 proto, .bool false, .int .i64 77, .int .i64 7, .int .i64 c1, .int .i64 c2, .bool false, .bool false, .bool false, .bool true, .int .i64 c3, .int .i64 c4, .int .i64 c5, .int .i64 c6])) w) : wpList Try.prog ops Q (o :: rest) a w := by
  have hb : Try.prog.built 38 ((#[(0, x0), (1, x1), (3, x3), (4, x4), (8, x8), (9, x9)] : Array (Nat × Operand)).map fun (i, x) => (i, a.eval x)).toList = some #[.int .i64 tag, .int .i64 proto, .bool false, .int .i64 77, .int .i64 7, .int .i64 c1, .int .i64 c2, .bool false, .bool false, .bool false, .bool true, .int .i64 c3, .int .i64 c4, .int .i64 c5, .int .i64 c6] := by
    rw [Array.toList_map]
    show Try.prog.built 38 [(0, a.eval x0), (1, a.eval x1), (3, a.eval x3), (4, a.eval x4), (8, a.eval x8), (9, a.eval x9)] = _
    rw [h0, h1, h3, h4, h8, h9]
    kernel_rfl
  refine wpList_build hg 38 _ ho ?_ ?_
  · rw [hb]
    rfl
  · rw [hb]
    exact h

theorem wpList_qu {ops : Array Oper} {rest : List Oper} {o : Oper} {a : Act} {w : World} {Q : Exit → Act → World → Prop} (hg : o.guard = none) (x0 x1 : Operand) (ho : o.op = .build 36 #[(0, x0), (1, x1)]) (c1 c2 c3 c4 : Int)
    (h0 : a.eval x0 = .agg #[.int .i64 c1, .int .i64 c2]) (h1 : a.eval x1 = .agg #[.int .i64 c3, .int .i64 c4])
    (h : wpList Try.prog ops Q rest (a.put o.dst (.agg #[.int .i64 c1, .int .i64 c2, .int .i64 c3, .int .i64 c4])) w) : wpList Try.prog ops Q (o :: rest) a w := by
  have hb : Try.prog.built 36 ((#[(0, x0), (1, x1)] : Array (Nat × Operand)).map fun (i, x) => (i, a.eval x)).toList = some #[.int .i64 c1, .int .i64 c2, .int .i64 c3, .int .i64 c4] := by
    rw [Array.toList_map]
    show Try.prog.built 36 [(0, a.eval x0), (1, a.eval x1)] = _
    rw [h0, h1]
    kernel_rfl
  refine wpList_build hg 36 _ ho ?_ ?_
  · rw [hb]
    rfl
  · rw [hb]
    exact h

theorem passB_ok {s : Int} {B : List (Int × Tn)} {p : Pk} (hI : InvB s B) (hp : PktOk p) : ∃ B' q v, passB B p = (B', q, v, 0) ∧ InvB s B' := by
  obtain ⟨T, hf, hT⟩ := hI.find hp.tag.1 hp.tag.2
  have h := hI.pass hp.good hp.tag (fun _ => hp.da)
  rw [passB_eq hp.good hf] at h ⊢
  exact ⟨_, _, _, rfl, h⟩

end Go.Proofs.Ytgpplekabohneaa
