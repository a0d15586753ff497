import PyProof.Rows.All
import Wide.All
import OpenK.AllK
import Wide.FinOn
import PyProof.EqAt
import PyProof.EqKinds
import PyProof.TupleCall
import Open.SpecLaws
import KE.OsGo
import HandS.ForSpec
import HandS.Comp
import HandS.WideBits
import PySem.Challenge.RW_towerchanges_s01_moves
set_option Elab.async false
set_option linter.all false
set_option maxRecDepth 100000
set_option maxHeartbeats 2000000
namespace Tw
/-! ### numbers and their bits -/
def bitN (a p : Nat) : Nat := a / 2 ^ p % 2
theorem bitN_lt (a p : Nat) : bitN a p < 2 := Nat.mod_lt _ (by decide)
theorem bit_is (a p : Nat) : Kzk1.bit a p = decide (bitN a p = 1) := by
  unfold Kzk1.bit bitN
  rfl
theorem bit_ge {s j : Nat} (h : bitN s j = 1) : 2 ^ j ≤ s := by
  unfold bitN at h
  have : s / 2 ^ j ≠ 0 := by
    intro z
    rw [z] at h
    simp at h
  exact Nat.le_of_not_lt fun q => this (Nat.div_eq_of_lt q)
/-- whether tower j's flag would change in state s -/
def chg (t : List Nat) (s j : Nat) : Bool := decide (bitN (t.getD j 0) s ≠ bitN s j)
theorem one_chg (t : List Nat) (s j : Nat) : (Kzk3.one t s j != s) = chg t s j := by
  have p : 0 < 2 ^ j := Nat.pow_pos (by decide)
  have h1 := bitN_lt (t.getD j 0) s
  have h2 := bitN_lt s j
  unfold Kzk3.one Kzk1.isUp chg
  rw [bit_is, bit_is]
  generalize bitN (t.getD j 0) s = x at *
  have hb : bitN s j = 1 → 2 ^ j ≤ s := bit_ge
  generalize bitN s j = y at *
  generalize 2 ^ j = z at *
  have hx : x = 0 ∨ x = 1 := by omega
  have hy : y = 0 ∨ y = 1 := by omega
  rcases hx with rfl | rfl <;> rcases hy with rfl | rfl <;> simp
  · have := hb rfl
    omega
  · omega
theorem moves_is (n : Nat) (t : List Nat) (s : Nat) : Kzk4.moves n t s = (List.range n).filter (chg t s) := by
  unfold Kzk4.moves
  congr 1
  funext j
  exact one_chg t s j
def movesA (n s : Nat) (t : List Nat) : List Int := if Kzk1.good n s t = true then (((List.range n).filter (chg t s)).length : Int) :: ((List.range n).filter (chg t s)).map (fun x : Nat => (x : Int)) else [-22]
theorem moves_spec (n s : Nat) (t : List Int) : PyKzk4.moves n s t = movesA n s (t.map Int.toNat) := by
  show (if Kzk1.good n s (t.map Int.toNat) = false then Kzk1.say (-22) else Kzk1.told (Kzk4.moves n (t.map Int.toNat) s)).value :: Kzk4Neutral.ints (if Kzk1.good n s (t.map Int.toNat) = false then Kzk1.say (-22) else Kzk1.told (Kzk4.moves n (t.map Int.toNat) s)).nums = _
  unfold movesA
  rw [moves_is]
  cases Kzk1.good n s (t.map Int.toNat) with
  | false => simp [Kzk1.say, Kzk4Neutral.ints]
  | true => simp [Kzk1.told, Kzk4Neutral.ints]
end Tw
/-! ### the layer's words in short: a def by its name -/
namespace Tw
open PySem PySem.Spec PyProof.Rows L2
/-- a number that is not below 0 -/
def nv (x : Nat) : V := .int (x : Int)
/-- what stands under the name x keeps the promise sp -/
def Has (P : Program) (w : World) (K : PySem.W.Frag) (mg : Str → Option Value) (base : Heap) (k : Nat) (x : Str) (ps : List Str) (sp : Sp) : Prop :=
  ∃ (f : Addr) (fd : FuncData), mg x = some (.ref f) ∧ PySem.W.keepIn K (.ref f) = true ∧ Binds K fd ps [] ∧ FnOk P w K mg base CX0 k f fd ps sp
section
variable {P : Program} {w : World} {K : PySem.W.Frag} {mg : Str → Option Value} {base : Heap}
theorem Has.of {x qual : Str} {st : Stmt} {ps : List Str} {k : Nat} {sp : Sp} {f : Addr} {fd : FuncData} (F : Fun K x qual st f fd) (m : mg x = some (.ref f)) (b : Binds K fd ps []) (G : FnOk P w K mg base CX0 k f fd ps sp) : Has P w K mg base k x ps sp :=
  ⟨f, fd, m, F.kp, b, G⟩
/-- x(e, ..), x a def of the text -/
theorem pe_callH {X : Cx} {k k2 : Nat} {x : Str} {ps : List Str} {sp : Sp} {p pos : Pos} {e : Expr} {es : List Expr} {t : TA} (G : Has X.prog X.w X.K X.mg X.base k x ps sp) (hr : Room k2 X.A) (ha : PA X (e :: es) t) (hg : Gl X x := by rfl) (hk : k ≤ k2 := by decide)
    (hdb : (x == ("__debug__" : Str)) = false := by decide) (he : starEach (e :: es) X.env = (false, eval e X.env) :: starEach es X.env := by rfl) (hpl : (backTo pos (starEach es X.env)).any (·.1) = false := by rfl) :
    PE X (.Call (.Name x p) (e :: es) [] pos) (tCall sp [] E0 t) := by
  obtain ⟨f, fd, m, kp, b, F⟩ := G
  exact pe_call F (hr.mono hk) hg m kp b .nil pass0 ha hdb he hpl
end
/-! ### lists and heaps -/
theorem take_more {α : Type} : ∀ {l : List α} {i : Nat} {x : α}, l[i]? = some x → l.take (i + 1) = l.take i ++ [x]
  | [], i, x, h => by simp at h
  | a :: l, 0, x, h => by
    have e : a = x := Option.some.inj h
    subst e
    rfl
  | a :: l, i + 1, x, h => congrArg (a :: ·) (take_more (l := l) (i := i) (x := x) h)
theorem map_at {α : Type} {f : α → V} {l : List α} {i : Nat} {y : V} (h : (l.map f)[i]? = some y) : ∃ z, l[i]? = some z ∧ y = f z := by
  rw [List.getElem?_map] at h
  cases e : l[i]? with
  | none =>
    rw [e] at h
    cases h
  | some z =>
    rw [e] at h
    exact ⟨z, rfl, (Option.some.inj h).symm⟩
theorem Same.put {H H' : Hp} {D : Addr} {o : HO} (s : Same H H') (n : H D = Option.none) : Same H (upd H' D o) := fun b u e => by
  rw [upd_ne (ne_of_none e n)]
  exact s b u e
theorem nv_ints {l : List Int} (h : ∀ x ∈ l, 0 ≤ x) : l.map V.int = (l.map Int.toNat).map nv := by
  rw [List.map_map]
  refine List.map_congr_left fun x hx => ?_
  show V.int x = V.int ((x.toNat : Nat) : Int)
  rw [Int.toNat_of_nonneg (h x hx)]
theorem cast_pow (e : Nat) : ((2 ^ e : Nat) : Int) = (2 : Int) ^ e := by
  rw [Int.natCast_pow]
  rfl
theorem dec_lt (a b : Nat) : decide ((a : Int) < (b : Int)) = decide (a < b) := decide_eq_decide.mpr Int.ofNat_lt
theorem dec_nv (a b : Nat) : decide (nv a = nv b) = decide (a = b) := decide_eq_decide.mpr ⟨fun z => Int.ofNat.inj (V.int.inj z), fun z => by rw [z]⟩
end Tw
namespace Tw
open PySem PySem.Spec PyProof.Rows L2
/-! ### the text by places -/
def top (i : Nat) : Stmt := PySem.Challenge.pw_towerchanges_s01_moves.main.body.getD i (.Pass ⟨0, 0, 0, 0⟩)
abbrev sPow : Stmt := top 3
abbrev NPow : List Str := ["exponent", "power", "step"]
abbrev PPow : List Str := ["exponent"]
theorem scPow : FnScope NPow PPow (defScope sPow) := ⟨rfl, rfl, rfl, by decide +kernel, rfl, by decide +kernel, by decide +kernel⟩
abbrev sBit : Stmt := top 4
abbrev NBit : List Str := ["number", "place"]
abbrev PBit : List Str := ["number", "place"]
theorem scBit : FnScope NBit PBit (defScope sBit) := ⟨rfl, rfl, rfl, by decide +kernel, rfl, by decide +kernel, by decide +kernel⟩
abbrev sIsSt : Stmt := top 5
abbrev NIsSt : List Str := ["n", "s"]
abbrev PIsSt : List Str := ["n", "s"]
theorem scIsSt : FnScope NIsSt PIsSt (defScope sIsSt) := ⟨rfl, rfl, rfl, by decide +kernel, rfl, by decide +kernel, by decide +kernel⟩
abbrev sFit : Stmt := top 6
abbrev NFit : List Str := ["n", "t", "states", "too_great", "rule"]
abbrev PFit : List Str := ["n", "t"]
theorem scFit : FnScope NFit PFit (defScope sFit) := ⟨rfl, rfl, rfl, by decide +kernel, rfl, by decide +kernel, by decide +kernel⟩
abbrev sChg : Stmt := top 7
abbrev NChg : List Str := ["s", "t", "j"]
abbrev PChg : List Str := ["s", "t", "j"]
theorem scChg : FnScope NChg PChg (defScope sChg) := ⟨rfl, rfl, rfl, by decide +kernel, rfl, by decide +kernel, by decide +kernel⟩
abbrev sMov : Stmt := top 8
abbrev NMov : List Str := ["n", "s", "t", "towers", "j"]
abbrev PMov : List Str := ["n", "s", "t"]
theorem scMov : FnScope NMov PMov (defScope sMov) := ⟨rfl, rfl, rfl, by decide +kernel, rfl, by decide +kernel, by decide +kernel⟩
/-- what the module's other names stand for -/
structure Txt (mg : Str → Option Value) : Prop where
  b_range : mg "range" = none
  b_len : mg "len" = none
  b_all : mg "all" = none
  c_MOST_TOWERS : ∃ tk, mg "MOST_TOWERS" = some (.int 4 tk)
  c_REFUSED : ∃ tk, mg "REFUSED" = some (.int (-22) tk)
end Tw
namespace Tw
open PySem PySem.Spec PyProof.Rows L2
/-! ### the promises -/
def spPow : Sp := fun vs H Q _ => ∃ e : Nat, vs = [nv e] ∧ e ≤ 16 ∧ Q (nv (2 ^ e)) H
def spBit : Sp := fun vs H Q _ => ∃ a p : Nat, vs = [nv a, nv p] ∧ Q (nv (bitN a p)) H
def spIsSt : Sp := fun vs H Q _ => ∃ n s : Nat, vs = [nv n, nv s] ∧ n ≤ 16 ∧ Q (.bl (decide (s < 2 ^ n))) H
def spFit (K : PySem.W.Frag) : Sp := fun vs H Q _ => ∃ (n : Nat) (a : Addr) (ts : List Nat), vs = [nv n, .ref a] ∧ SqL K H a (ts.map nv) ∧ ts.length ≤ 10 ∧ ∀ H' : Hp, Same H H' → Q (.bl (Kzk1.okTowers n ts)) H'
def spChg (K : PySem.W.Frag) : Sp := fun vs H Q _ => ∃ (s j : Nat) (a : Addr) (ts : List Nat), vs = [nv s, .ref a, nv j] ∧ SqL K H a (ts.map nv) ∧ j < ts.length ∧ Q (.bl (chg ts s j)) H
section
variable {P : Program} {w : World} {K : PySem.W.Frag} {mg : Str → Option Value} {base : Heap}
/-! ### power_of_two -/
theorem ok_pow {f : Addr} {fd : FuncData} (F : Fun K "power_of_two" "power_of_two" sPow f fd) (T : Txt mg) : FnOk P w K mg base CX0 1 f fd ["exponent"] spPow := by
  refine F.ok scPow (fun vs H Q E h => ?_) (fun cdv A outer s H vs Q E hr h => ?_)
  · obtain ⟨e, rfl, _⟩ := h
    rfl
  · obtain ⟨e, rfl, he, k⟩ := h
    refine ⟨_, pss_cons (ps_set (i := 1) scPow.nd rfl (Or.inl rfl) pe_int)
      (pss_cons (ps_for PassesOwn.never rfl (pi_range1 rfl T.b_range (pa_cons (pv 0) pa_nil)) (pg_name (i := 2) scPow.nd rfl (Or.inl rfl))
        (pss_one (ps_set (i := 1) scPow.nd rfl (Or.inl rfl) (pe_op op_mul (pv 1) pe_int))))
      (pss_one (ps_ret (pv 1)))), ?_⟩
    refine ⟨_, rfl, (e : Int), rfl, by omega, by omega, for_range (lo := 0) (n := e) (fun i σ H' => H' = H ∧ ∃ v : Option V, σ = [some (nv e), some (nv (2 ^ i)), v]) ⟨rfl, none, rfl⟩ ?_ ?_⟩
    · rintro i σ H' hi ⟨rfl, v, rfl⟩
      refine ⟨_, rfl, _, _, rfl, rfl, .inr ⟨by decide, by decide⟩, rfl, some (.int (0 + (i : Int))), ?_⟩
      have e2 : ((2 ^ i : Nat) : Int) * 2 = ((2 ^ (i + 1) : Nat) : Int) := by
        rw [Nat.pow_succ]
        omega
      show [some (nv e), some (V.int (((2 ^ i : Nat) : Int) * 2)), some (.int (0 + (i : Int)))] = _
      rw [e2]
      rfl
    · rintro σ H' ⟨rfl, v, rfl⟩
      exact ⟨_, rfl, k⟩
/-! ### bit -/
theorem ok_bit {f : Addr} {fd : FuncData} (F : Fun K "bit" "bit" sBit f fd) : FnOk P w K mg base CX0 1 f fd ["number", "place"] spBit := by
  refine F.ok scBit (fun vs H Q E h => ?_) (fun cdv A outer s H vs Q E hr h => ?_)
  · obtain ⟨a, p, rfl, _⟩ := h
    rfl
  · obtain ⟨a, p, rfl, k⟩ := h
    refine ⟨_, pss_one (ps_ret (pe_op op_odd (pe_op op_shrN (pv 0) (pv 1)) pe_int)), ?_⟩
    refine ⟨_, rfl, _, rfl, (a : Int), p, rfl, rfl, a / 2 ^ p, ?_, rfl, k⟩
    show V.int ((a : Int) / 2 ^ p) = V.int ((a / 2 ^ p : Nat) : Int)
    rw [Int.natCast_ediv, cast_pow]
/-! ### is_state -/
theorem ok_isSt {f : Addr} {fd : FuncData} (F : Fun K "is_state" "is_state" sIsSt f fd) (HP : Has P w K mg base 1 "power_of_two" ["exponent"] spPow) :
    FnOk P w K mg base CX0 2 f fd ["n", "s"] spIsSt := by
  refine F.ok scIsSt (fun vs H Q E h => ?_) (fun cdv A outer s H vs Q E hr h => ?_)
  · obtain ⟨n, s, rfl, _⟩ := h
    rfl
  · obtain ⟨n, s, rfl, hn, k⟩ := h
    refine ⟨_, pss_one (ps_ret (pe_cmpR op_lt (pv 1) (pe_callH HP hr (pa_cons (pv 0) pa_nil)) (nomark _))), ?_⟩
    refine ⟨_, rfl, _, rfl, n, rfl, hn, _, _, rfl, rfl, ?_⟩
    have e : decide (((s : Nat) : Int) < ((2 ^ n : Nat) : Int)) = decide (s < 2 ^ n) := decide_eq_decide.mpr Int.ofNat_lt
    rw [← e] at k
    exact k
/-! ### rules_fit -/
theorem fit_no {n : Nat} {ts : List Nat} (h : n < 1 ∨ 4 < n ∨ ts.length ≠ n) : Kzk1.okTowers n ts = false := by
  unfold Kzk1.okTowers
  rcases h with h | h | h
  · rw [decide_eq_false (by omega : ¬ 1 ≤ n)]
    rfl
  · rw [decide_eq_false (by omega : ¬ n ≤ 4)]
    simp
  · rw [beq_false_of_ne h]
    simp
theorem fit_yes {n : Nat} {ts : List Nat} (h1 : ¬ n < 1) (h2 : ¬ 4 < n) (h3 : ts.length = n) : Kzk1.okTowers n ts = (ts.map fun r => decide (r < 2 ^ 2 ^ n)).all id := by
  unfold Kzk1.okTowers
  rw [decide_eq_true (by omega : 1 ≤ n), decide_eq_true (by omega : n ≤ 4), h3, List.all_map]
  simp
theorem fit_facts {n : Nat} {ts : List Nat} (hf : Kzk1.okTowers n ts = true) : 1 ≤ n ∧ n ≤ 4 ∧ ts.length = n := by
  unfold Kzk1.okTowers at hf
  simp only [Bool.and_eq_true, decide_eq_true_eq, beq_iff_eq] at hf
  exact ⟨hf.1.1.1, hf.1.1.2, hf.1.2⟩
theorem good_of {n s : Nat} {ts : List Nat} : Kzk1.good n s ts = (Kzk1.okTowers n ts && decide (s < 2 ^ n)) := rfl
theorem ok_fit {f : Addr} {fd : FuncData} (F : Fun K "rules_fit" "rules_fit" sFit f fd) (T : Txt mg) (HP : Has P w K mg base 1 "power_of_two" ["exponent"] spPow) :
    FnOk P w K mg base CX0 2 f fd ["n", "t"] (spFit K) := by
  obtain ⟨tkM, mgM⟩ := T.c_MOST_TOWERS
  refine F.ok scFit (fun vs H Q E h => ?_) (fun cdv A outer s H vs Q E hr h => ?_)
  · obtain ⟨n, a, ts, rfl, _⟩ := h
    rfl
  · obtain ⟨n, a, ts, rfl, hS, hlen, k⟩ := h
    refine ⟨_, pss_cons (ps_if (PW.pt (pw_or (pt_cmpR op_lt (pv 0) pe_int (nomark _)) (pw_or (pt_cmpR op_gt (pv 0) (pe_glob (v := .int 4) rfl mgM ⟨_, rfl⟩) (nomark _)) (pw_or1 (pt_cmpR op_ne (pe_callB call_len_seq (by rfl) T.b_len PySem.boot_len (pa_cons (pv 1) pa_nil)) (pv 0) (nomark _))))))
        (pss_one (ps_ret pe_bl)) pss_nil)
      (pss_cons (ps_set (i := 2) scFit.nd rfl (Or.inl rfl) (pe_callH HP hr (pa_cons (pv 0) pa_nil)))
      (pss_cons (ps_set (i := 3) scFit.nd rfl (Or.inr rfl) (pe_callH HP hr (pa_cons (pv 2) pa_nil)))
      (pss_one (ps_ret (pe_callB (cr_all rfl) (by rfl) T.b_all (by decide +kernel) (pa_cons (pe_lc (own := [("rule", 4)]) (g := gName 4) (tt := tYes) rfl scFit.nd (pi_list (pv 1)) (blkOk_by (N := NFit) (sc := defScope sFit) (by decide +kernel))
        (fun _ _ _ _ _ => pg_name (i := 4) scFit.nd rfl (Or.inl rfl)) (fun _ _ _ _ _ => pts_nil) (fun _ _ _ _ _ => pe_cmpR op_lt (pv 4) (pv 3) (nomark _))) pa_nil)))))), ?_⟩
    refine ⟨_, rfl, _, _, rfl, rfl, _, rfl, ite2 (fun c1 => iteT ?_) (fun c1 => ?_)⟩
    · have c : (n : Int) < 1 := of_decide_eq_true c1
      have e := k H (Same.refl H)
      rw [fit_no (.inl (by omega))] at e
      exact e
    refine ⟨_, rfl, _, _, rfl, rfl, _, rfl, ite2 (fun c2 => iteT ?_) (fun c2 => ?_)⟩
    · have c : (4 : Int) < n := of_decide_eq_true c2
      have e := k H (Same.refl H)
      rw [fit_no (.inr (.inl (by omega)))] at e
      exact e
    refine ⟨_, rfl, a, _, rfl, .inl hS, _, rfl, rfl, _, rfl, ?_⟩
    have d1 : ¬ n < 1 := fun z => c1 (decide_eq_true (by omega))
    have d2 : ¬ 4 < n := fun z => c2 (decide_eq_true (by omega))
    rw [List.length_map]
    by_cases c3 : ts.length = n
    · refine iteNS (show V.int ((ts.length : Nat) : Int) = nv n by rw [c3]; rfl) ?_
      refine ⟨_, rfl, n, rfl, by omega, _, rfl, 2 ^ n, rfl, ?_, ?_⟩
      · have : 2 ^ n ≤ 2 ^ 4 := Nat.pow_le_pow_right (by decide) (by omega)
        exact this
      refine ⟨_, rfl, a, rfl, ⟨_, hS⟩, fun D hD => lc_list (K := K) (a := a) (xs := ts.map nv) (fun i H' => Same H H' ∧ H' D = some (.lst (((ts.take i).map fun r => decide (r < 2 ^ 2 ^ n)).map V.bl)))
        ⟨Same.put (Same.refl H) hD, upd_same⟩ (fun i H' _ ⟨q, _⟩ => q.seq hS) ?_ ?_⟩
      · rintro i x H' hx ⟨q, qD⟩
        obtain ⟨z, hz, rfl⟩ := map_at hx
        refine ⟨rfl, _, rfl, _, rfl, _, _, rfl, rfl, _, qD, ?_, Same.put q hD, ?_⟩
        · rw [List.length_map, List.length_map, List.length_take]
          exact small1000 (by omega)
        · have e : decide ((z : Int) < ((2 ^ 2 ^ n : Nat) : Int)) = decide (z < 2 ^ 2 ^ n) := decide_eq_decide.mpr Int.ofNat_lt
          rw [upd_same, take_more hz, List.map_append, List.map_append]
          show some (HO.lst (_ ++ [V.bl (decide ((z : Int) < ((2 ^ 2 ^ n : Nat) : Int)))])) = _
          rw [e]
          rfl
      · rintro H' ⟨q, qD⟩
        rw [List.length_map, List.take_length] at qD
        refine ⟨D, _, rfl, SqL.of qD, ?_⟩
        have e := k H' q
        rw [fit_yes d1 d2 c3] at e
        exact e
    · have e : (!decide (V.int ((ts.length : Nat) : Int) = nv n)) = true := by
        rw [decide_eq_false]
        · rfl
        · intro z
          have z2 : ((ts.length : Nat) : Int) = (n : Int) := V.int.inj z
          omega
      show if (!decide (V.int ((ts.length : Nat) : Int) = nv n)) = true then _ else _
      rw [e]
      refine iteT ?_
      have e := k H (Same.refl H)
      rw [fit_no (.inr (.inr c3))] at e
      exact e
/-! ### would_change -/
theorem ok_chg {f : Addr} {fd : FuncData} (F : Fun K "would_change" "would_change" sChg f fd) (HB : Has P w K mg base 1 "bit" ["number", "place"] spBit) :
    FnOk P w K mg base CX0 2 f fd ["s", "t", "j"] (spChg K) := by
  refine F.ok scChg (fun vs H Q E h => ?_) (fun cdv A outer s H vs Q E hr h => ?_)
  · obtain ⟨s, j, a, ts, rfl, _⟩ := h
    rfl
  · obtain ⟨s, j, a, ts, rfl, hS, hj, k⟩ := h
    refine ⟨_, pss_one (ps_ret (pe_cmpR op_ne (pe_callH HB hr (pa_cons (pe_ix ix_list (pv 1) (pv 2) (fun _ _ => rfl)) (pa_cons (pv 0) pa_nil)))
      (pe_callH HB hr (pa_cons (pv 0) (pa_cons (pv 2) pa_nil))) (nomark _))), ?_⟩
    have hat : (ts.map nv)[j]? = some (nv (ts.getD j 0)) := by
      rw [List.getElem?_map, List.getElem?_eq_getElem hj, List.getD_eq_getElem?_getD, List.getElem?_eq_getElem hj]
      rfl
    refine ⟨_, rfl, _, rfl, a, _, _, _, rfl, rfl, hS, atI_nat hat, _, rfl, ts.getD j 0, s, rfl, _, rfl, _, rfl, s, j, rfl, rfl, ?_⟩
    have e : (!decide (nv (bitN (ts.getD j 0) s) = nv (bitN s j))) = chg ts s j := by
      unfold chg
      rw [decide_not]
      congr 1
      refine decide_eq_decide.mpr ⟨fun z => ?_, fun z => by rw [z]⟩
      have z2 : ((bitN (ts.getD j 0) s : Nat) : Int) = ((bitN s j : Nat) : Int) := V.int.inj z
      omega
    rw [e]
    exact k
end
end Tw
namespace Tw
open PySem PySem.Spec PyProof.Rows L2
def spMov (K : PySem.W.Frag) : Sp := fun vs H Q _ => ∃ (n s : Nat) (a : Addr) (ts : List Nat), vs = [nv n, nv s, .ref a] ∧ SqL K H a (ts.map nv) ∧ ts.length ≤ 10 ∧ ∀ (H' : Hp) (p : Addr), H' p = some (.lst ((movesA n s ts).map V.int)) → Q (.ref p) H'
section
variable {P : Program} {w : World} {K : PySem.W.Frag} {mg : Str → Option Value} {base : Heap}
/-! ### moves -/
theorem filter_range_succ (p : Nat → Bool) (i : Nat) : (List.range (i + 1)).filter p = if p i = true then (List.range i).filter p ++ [i] else (List.range i).filter p := by
  rw [List.range_succ, List.filter_append]
  cases h : p i with
  | true => simp [h]
  | false => simp [h]
theorem ok_mov {f : Addr} {fd : FuncData} (F : Fun K "moves" "moves" sMov f fd) (T : Txt mg)
    (HF : Has P w K mg base 2 "rules_fit" ["n", "t"] (spFit K))
    (HI : Has P w K mg base 2 "is_state" ["n", "s"] spIsSt)
    (HC : Has P w K mg base 2 "would_change" ["s", "t", "j"] (spChg K)) :
    FnOk P w K mg base CX0 3 f fd ["n", "s", "t"] (spMov K) := by
  obtain ⟨tkR, mgR⟩ := T.c_REFUSED
  refine F.ok scMov (fun vs H Q E h => ?_) (fun cdv A outer s H vs Q E hr h => ?_)
  · obtain ⟨n, s, a, ts, rfl, _⟩ := h
    rfl
  · obtain ⟨n, s, a, ts, rfl, hS, hlen, k⟩ := h
    refine ⟨_, pss_cons (ps_if (PW.pt (pw_or (pt_not (pt_val (pe_callH HF hr (pa_cons (pv 0) (pa_cons (pv 2) pa_nil))))) (pw_or1 (pt_not (pt_val (pe_callH HI hr (pa_cons (pv 0) (pa_cons (pv 1) pa_nil))))))))
        (pss_one (ps_ret (pe_lst (pa_cons (pe_glob (v := .int (-22)) rfl mgR ⟨_, rfl⟩) pa_nil)))) pss_nil)
      (pss_cons (ps_setLc (i := 3) (own := [("j", 4)]) (g := gName 4) rfl scMov.nd rfl rfl (sw_true rfl rfl rfl (by decide +kernel)) (pi_range1 rfl T.b_range (pa_cons (pv 0) pa_nil)) (blkOk_by (N := NMov) (sc := defScope sMov) (by decide +kernel))
        (fun _ _ _ _ _ => pg_name (i := 4) scMov.nd rfl (Or.inl rfl)) (fun _ _ _ _ _ => pts_one (pt_val (pe_callH HC hr (pa_cons (pv 1) (pa_cons (pv 2) (pa_cons (pv 4) pa_nil)))))) (fun _ _ _ _ _ => pv 4))
      (pss_one (ps_ret (pe_op op_cat (pe_lst (pa_cons (pe_callB call_len_seq (by rfl) T.b_len PySem.boot_len (pa_cons (pv 3) pa_nil)) pa_nil)) (pv 3))))), ?_⟩
    have no : Kzk1.good n s ts = false → ∀ H' : Hp, Same H H' → ∀ p, H' p = none → Q (.ref p) (upd H' p (.lst [V.int (-22)])) := fun hg H' _ p hp => by
      refine k _ p ?_
      unfold movesA
      rw [hg]
      exact upd_same
    refine ⟨_, rfl, _, rfl, n, a, ts, rfl, hS, hlen, fun H1 s1 => ⟨_, rfl, ?_⟩⟩
    cases hf : Kzk1.okTowers n ts with
    | false =>
      refine iteT (iteT ⟨(by show 1 ≤ sizeLine; decide), fun p hp => no ?_ H1 s1 p hp⟩)
      unfold Kzk1.good
      rw [hf]
      rfl
    | true =>
      have hn : n ≤ 4 := by
        unfold Kzk1.okTowers at hf
        simp only [Bool.and_eq_true, decide_eq_true_eq] at hf
        exact hf.1.1.2
      have hl : ts.length = n := by
        unfold Kzk1.okTowers at hf
        simp only [Bool.and_eq_true, decide_eq_true_eq, beq_iff_eq] at hf
        exact hf.1.2
      refine iteF ⟨_, rfl, _, rfl, n, s, rfl, by omega, _, rfl, ?_⟩
      cases hs : decide (s < 2 ^ n) with
      | false =>
        refine iteT ⟨(by show 1 ≤ sizeLine; decide), fun p hp => no ?_ H1 s1 p hp⟩
        unfold Kzk1.good
        rw [hf, hs]
        rfl
      | true =>
        have hg : Kzk1.good n s ts = true := by
          unfold Kzk1.good
          rw [hf, hs]
          rfl
        refine iteF ⟨_, rfl, (n : Int), rfl, by omega, by omega, fun D hD => lc_range (lo := 0) (n := n) (fun i H' => Same H1 H' ∧ H' D = some (.lst (((List.range i).filter (chg ts s)).map nv))) ⟨Same.put (Same.refl H1) hD, upd_same⟩ ?_ ?_⟩
        · rintro i H' hi ⟨q, qD⟩
          refine ⟨rfl, _, rfl, _, rfl, _, rfl, s, i, a, ts, ?_, (s1.trans q).seq hS, by omega, _, rfl, ?_⟩
          · show [nv s, V.ref a, V.int (0 + (i : Int))] = _
            rw [Int.zero_add]
            rfl
          · have fr := filter_range_succ (chg ts s) i
            cases hc : chg ts s i with
            | true =>
              rw [hc, if_pos rfl] at fr
              refine iteT ⟨_, rfl, _, qD, ?_, Same.put q hD, ?_⟩
              · rw [List.length_map]
                exact small1000 (Nat.le_trans (List.length_filter_le _ _) (by rw [List.length_range]; omega))
              · rw [upd_same, fr, List.map_append]
                show some (HO.lst (_ ++ [V.int (0 + (i : Int))])) = _
                rw [Int.zero_add]
                rfl
            | false =>
              rw [hc, if_neg Bool.false_ne_true] at fr
              refine iteF ⟨q, ?_⟩
              rw [fr]
              exact qD
        · rintro H' ⟨q, qD⟩
          refine ⟨_, rfl, D, _, rfl, .inl (SqL.of qD), (by show 1 ≤ sizeLine; decide), fun p hp => ⟨_, rfl, p, D, _, ((List.range n).filter (chg ts s)).map nv, rfl, rfl, upd_same, ?_, ?_, fun p2 hp2 => ?_⟩⟩
          · rw [upd_ne (ne_of_none qD hp)]
            exact qD
          · rw [List.length_map]
            have := List.length_filter_le (chg ts s) (List.range n)
            rw [List.length_range] at this
            exact Nat.le_of_lt (small1000 (by show 1 + _ ≤ 1000; omega))
          · refine k _ p2 ?_
            rw [upd_same]
            unfold movesA
            rw [if_pos hg]
            rw [List.length_map, List.map_cons, List.map_map]
            rfl
end
end Tw
namespace Tw
open PySem PySem.Spec PyProof.Rows L2
/-! ### what the top has written -/
theorem all_mk {P : Program} {w : World} {K : PySem.W.Frag} {h : Heap} {mg : Str → Option Value} {fa f3 f4 f5 f6 f7 f8 : Addr} (X : K.In h) (G : h.Ns mainGlobals mg) (hfa : mg "moves" = some (.ref fa))
    {od3 an3 od4 an4 od5 an5 od6 an6 od7 an7 od8 an8 : Option Addr} {sl3 sl4 sl5 sl6 sl7 sl8 : Array (Option Value)}
    {oc3 kV3 dc3 pm3 cd3 ct3 oc4 kV4 dc4 pm4 cd4 ct4 oc5 kV5 dc5 pm5 cd5 ct5 oc6 kV6 dc6 pm6 cd6 ct6 oc7 kV7 dc7 pm7 cd7 ct7 oc8 kV8 dc8 pm8 cd8 ct8 : Value} {tkMOST_TOWERS tkREFUSED : Tok}
    (g_range : PySem.W.nsIn K mainGlobals "range" = some none)
    (g_len : PySem.W.nsIn K mainGlobals "len" = some none)
    (g_all : PySem.W.nsIn K mainGlobals "all" = some none)
    (g_MOST_TOWERS : PySem.W.nsIn K mainGlobals "MOST_TOWERS" = some (some (.int 4 tkMOST_TOWERS)))
    (g_REFUSED : PySem.W.nsIn K mainGlobals "REFUSED" = some (some (.int (-22) tkREFUSED)))
    (a3 : PySem.W.nsIn K mainGlobals "power_of_two" = some (some (.ref f3)))
    (l3 : K.lookup f3 = some ⟨oc3, od3, .func (PySem.W.fnOf "power_of_two" "power_of_two" (defArgs sPow) (defBody sPow) (defScope sPow) .none kV3 dc3 pm3 an3 cd3 ct3), sl3⟩)
    (c3 : PySem.W.codeIn K cd3 "power_of_two" = true) (k3 : PySem.W.keepIn K (.ref f3) = true)
    (a4 : PySem.W.nsIn K mainGlobals "bit" = some (some (.ref f4)))
    (l4 : K.lookup f4 = some ⟨oc4, od4, .func (PySem.W.fnOf "bit" "bit" (defArgs sBit) (defBody sBit) (defScope sBit) .none kV4 dc4 pm4 an4 cd4 ct4), sl4⟩)
    (c4 : PySem.W.codeIn K cd4 "bit" = true) (k4 : PySem.W.keepIn K (.ref f4) = true)
    (a5 : PySem.W.nsIn K mainGlobals "is_state" = some (some (.ref f5)))
    (l5 : K.lookup f5 = some ⟨oc5, od5, .func (PySem.W.fnOf "is_state" "is_state" (defArgs sIsSt) (defBody sIsSt) (defScope sIsSt) .none kV5 dc5 pm5 an5 cd5 ct5), sl5⟩)
    (c5 : PySem.W.codeIn K cd5 "is_state" = true) (k5 : PySem.W.keepIn K (.ref f5) = true)
    (a6 : PySem.W.nsIn K mainGlobals "rules_fit" = some (some (.ref f6)))
    (l6 : K.lookup f6 = some ⟨oc6, od6, .func (PySem.W.fnOf "rules_fit" "rules_fit" (defArgs sFit) (defBody sFit) (defScope sFit) .none kV6 dc6 pm6 an6 cd6 ct6), sl6⟩)
    (c6 : PySem.W.codeIn K cd6 "rules_fit" = true) (k6 : PySem.W.keepIn K (.ref f6) = true)
    (a7 : PySem.W.nsIn K mainGlobals "would_change" = some (some (.ref f7)))
    (l7 : K.lookup f7 = some ⟨oc7, od7, .func (PySem.W.fnOf "would_change" "would_change" (defArgs sChg) (defBody sChg) (defScope sChg) .none kV7 dc7 pm7 an7 cd7 ct7), sl7⟩)
    (c7 : PySem.W.codeIn K cd7 "would_change" = true) (k7 : PySem.W.keepIn K (.ref f7) = true)
    (a8 : PySem.W.nsIn K mainGlobals "moves" = some (some (.ref f8)))
    (l8 : K.lookup f8 = some ⟨oc8, od8, .func (PySem.W.fnOf "moves" "moves" (defArgs sMov) (defBody sMov) (defScope sMov) .none kV8 dc8 pm8 an8 cd8 ct8), sl8⟩)
    (c8 : PySem.W.codeIn K cd8 "moves" = true) (k8 : PySem.W.keepIn K (.ref f8) = true)
    : ∃ fd : FuncData, (∀ (s : Shared) (us : List Value), us.length = PMov.length → BindsTo s fd ⟨us, []⟩ (PMov.zip us)) ∧ ∀ base : Heap, K.In base → base.Ns mainGlobals mg → FnOk P w K mg base CX0 3 fa fd PMov (spMov K) := by
  have T : Txt mg := ⟨PySem.W.mg_none_of X G g_range, PySem.W.mg_none_of X G g_len, PySem.W.mg_none_of X G g_all, ⟨_, PySem.W.mg_of X G g_MOST_TOWERS⟩, ⟨_, PySem.W.mg_of X G g_REFUSED⟩⟩
  have FPow := fun_mk (st := sPow) l3 c3 k3
  have bPow := FPow.binds (ps := PPow) fun _ _ _ _ _ _ us hl => match us, hl with | [_], _ => rfl
  have mPow := PySem.W.mg_of X G a3
  have FBit := fun_mk (st := sBit) l4 c4 k4
  have bBit := FBit.binds (ps := PBit) fun _ _ _ _ _ _ us hl => match us, hl with | [_, _], _ => rfl
  have mBit := PySem.W.mg_of X G a4
  have FIsSt := fun_mk (st := sIsSt) l5 c5 k5
  have bIsSt := FIsSt.binds (ps := PIsSt) fun _ _ _ _ _ _ us hl => match us, hl with | [_, _], _ => rfl
  have mIsSt := PySem.W.mg_of X G a5
  have FFit := fun_mk (st := sFit) l6 c6 k6
  have bFit := FFit.binds (ps := PFit) fun _ _ _ _ _ _ us hl => match us, hl with | [_, _], _ => rfl
  have mFit := PySem.W.mg_of X G a6
  have FChg := fun_mk (st := sChg) l7 c7 k7
  have bChg := FChg.binds (ps := PChg) fun _ _ _ _ _ _ us hl => match us, hl with | [_, _, _], _ => rfl
  have mChg := PySem.W.mg_of X G a7
  have FMov := fun_mk (st := sMov) l8 c8 k8
  have bMov := FMov.binds (ps := PMov) fun _ _ _ _ _ _ us hl => match us, hl with | [_, _, _], _ => rfl
  have mMov := PySem.W.mg_of X G a8
  have e := hfa.symm.trans (PySem.W.mg_of X G a8)
  cases e
  refine ⟨PySem.W.fnOf "moves" "moves" (defArgs sMov) (defBody sMov) (defScope sMov) .none kV8 dc8 pm8 an8 cd8 ct8, fun s us hu => match us, hu with | [_, _, _], _ => .of_eq rfl, fun base _ _ => ?_⟩
  have HPow : Has P w K mg base 1 "power_of_two" PPow spPow := .of FPow mPow bPow (ok_pow FPow T)
  have HBit : Has P w K mg base 1 "bit" PBit spBit := .of FBit mBit bBit (ok_bit FBit)
  have HIsSt : Has P w K mg base 2 "is_state" PIsSt spIsSt := .of FIsSt mIsSt bIsSt (ok_isSt FIsSt HPow)
  have HFit : Has P w K mg base 2 "rules_fit" PFit (spFit K) := .of FFit mFit bFit (ok_fit FFit T HPow)
  have HChg : Has P w K mg base 2 "would_change" PChg (spChg K) := .of FChg mChg bChg (ok_chg FChg HBit)
  exact ok_mov FMov T HFit HIsSt HChg
end Tw
open PySem PySem.W PyProof.Rows
set_option maxRecDepth 100000 in
set_option maxHeartbeats 8000000 in
theorem PySem.Challenge.cw_towerchanges_s01_moves_holds : PySem.Challenge.rw_towerchanges_s01_moves.Holds := by
  w_on; k_headS; (case hw => exact ⟨[.int 0, .int 0, .list []], by decide +kernel, by decide +kernel⟩)
  k_fillS
  refine L2.walk_specK (r := PySem.Challenge.rw_towerchanges_s01_moves) (k := 3) (CX := L2.CX0) (ps := Tw.PMov) (sp := Tw.spMov) (by decide +kernel) rfl rfl ⟨rfl, by decide, by decide⟩ (fun w h Y => PySem.W.kIn_of Y) ?F ?S (fun _ _ _ _ z => z)
  case F =>
    intro w mg fa h Y KX G hmg
    refine' Tw.all_mk KX G hmg ?g_range ?g_len ?g_all ?g_MOST_TOWERS ?g_REFUSED ?a3 ?l3 ?c3 ?k3 ?a4 ?l4 ?c4 ?k4 ?a5 ?l5 ?c5 ?k5 ?a6 ?l6 ?c6 ?k6 ?a7 ?l7 ?c7 ?k7 ?a8 ?l8 ?c8 ?k8
    (case g_range => k_is)
    (case g_len => k_is)
    (case g_all => k_is)
    (case g_MOST_TOWERS => k_is)
    (case g_REFUSED => k_is)
    (case a3 => k_is)
    (case l3 => k_is)
    (case c3 => k_is)
    (case k3 => k_is)
    (case a4 => k_is)
    (case l4 => k_is)
    (case c4 => k_is)
    (case k4 => k_is)
    (case a5 => k_is)
    (case l5 => k_is)
    (case c5 => k_is)
    (case k5 => k_is)
    (case a6 => k_is)
    (case l6 => k_is)
    (case c6 => k_is)
    (case k6 => k_is)
    (case a7 => k_is)
    (case l7 => k_is)
    (case c7 => k_is)
    (case k7 => k_is)
    (case a8 => k_is)
    (case l8 => k_is)
    (case c8 => k_is)
    (case k8 => k_is)
  case S =>
    intro K H xs a hO hwi hask hx
    obtain ⟨n, s, t, u⟩ := a
    cases hx with
    | cons h1 h2 =>
      cases h2 with
      | cons h2 h3 =>
        cases h3 with
        | cons h3 h4 =>
          cases h4
          cases h1
          cases h2
          cases h3 with
          | lst hs ha =>
            have e := L2.ints_dw t _ ha
            subst e
            have q : (Codec.inInt 0 4294967295 n && (Codec.inInt 0 4294967295 s && ((Codec.inLen 0 10 t && t.all (Codec.inInt 0 65535)) && true))) = true := hwi
            rw [Bool.and_eq_true, Bool.and_eq_true, Bool.and_eq_true, Bool.and_eq_true] at q
            obtain ⟨q1, q2, ⟨q3, q4⟩, _⟩ := q
            have p1 := (Codec.inInt_iff.mp q1).1
            have p2 := (Codec.inInt_iff.mp q2).1
            have p4 : ∀ x ∈ t, 0 ≤ x := fun x hx => (Codec.inInt_iff.mp (List.all_eq_true.mp q4 x hx)).1
            have p3 := (Codec.inNat_iff.mp q3).2
            obtain ⟨m, rfl⟩ := Int.eq_ofNat_of_zero_le p1
            obtain ⟨i, rfl⟩ := Int.eq_ofNat_of_zero_le p2
            rw [Tw.nv_ints p4] at hs
            refine ⟨m, i, _, t.map Int.toNat, rfl, hs, by rw [List.length_map]; exact p3, fun H' p hp => ?_⟩
            rw [← Tw.moves_spec] at hp
            exact .lst (L2.SqL.of hp) (L2.dw_ints _)
#print axioms PySem.Challenge.cw_towerchanges_s01_moves_holds
