import PyProof.Rows.All
import Wide.All
import OpenK.AllK
import Wide.FinOn
import PyProof.EqAt
import PyProof.EqKinds
import PyProof.TupleCall
import Open.SpecLaws
import KE.OsGo
import HandS.ForSpec
import HandS.Comp
import HandS.WideBits
import HandS.Dict
import HandS.Iter
import HandS.Walk
import HandS.More
import HandS.Text
import KE.KDictSum
import PySem.Challenge.RW_towerchanges_s04_traps
set_option Elab.async false
set_option linter.all false
set_option maxRecDepth 100000
set_option maxHeartbeats 2000000
namespace Tw
/-! ### numbers and their bits -/
def bitN (a p : Nat) : Nat := a / 2 ^ p % 2
theorem bitN_lt (a p : Nat) : bitN a p < 2 := Nat.mod_lt _ (by decide)
theorem bit_is (a p : Nat) : Kzk1.bit a p = decide (bitN a p = 1) := by
  unfold Kzk1.bit bitN
  rfl
theorem bit_ge {s j : Nat} (h : bitN s j = 1) : 2 ^ j ≤ s := by
  unfold bitN at h
  have : s / 2 ^ j ≠ 0 := by
    intro z
    rw [z] at h
    simp at h
  exact Nat.le_of_not_lt fun q => this (Nat.div_eq_of_lt q)
/-- whether tower j's flag would change in state s -/
def chg (t : List Nat) (s j : Nat) : Bool := decide (bitN (t.getD j 0) s ≠ bitN s j)
theorem one_chg (t : List Nat) (s j : Nat) : (Kzk3.one t s j != s) = chg t s j := by
  have p : 0 < 2 ^ j := Nat.pow_pos (by decide)
  have h1 := bitN_lt (t.getD j 0) s
  have h2 := bitN_lt s j
  unfold Kzk3.one Kzk1.isUp chg
  rw [bit_is, bit_is]
  generalize bitN (t.getD j 0) s = x at *
  have hb : bitN s j = 1 → 2 ^ j ≤ s := bit_ge
  generalize bitN s j = y at *
  generalize 2 ^ j = z at *
  have hx : x = 0 ∨ x = 1 := by omega
  have hy : y = 0 ∨ y = 1 := by omega
  rcases hx with rfl | rfl <;> rcases hy with rfl | rfl <;> simp
  · have := hb rfl
    omega
  · omega
theorem moves_is (n : Nat) (t : List Nat) (s : Nat) : Kzk4.moves n t s = (List.range n).filter (chg t s) := by
  unfold Kzk4.moves
  congr 1
  funext j
  exact one_chg t s j
def movesA (n s : Nat) (t : List Nat) : List Int := if Kzk1.good n s t = true then (((List.range n).filter (chg t s)).length : Int) :: ((List.range n).filter (chg t s)).map (fun x : Nat => (x : Int)) else [-22]
theorem moves_spec (n s : Nat) (t : List Int) : PyKzk4.moves n s t = movesA n s (t.map Int.toNat) := by
  show (if Kzk1.good n s (t.map Int.toNat) = false then Kzk1.say (-22) else Kzk1.told (Kzk4.moves n (t.map Int.toNat) s)).value :: Kzk4Neutral.ints (if Kzk1.good n s (t.map Int.toNat) = false then Kzk1.say (-22) else Kzk1.told (Kzk4.moves n (t.map Int.toNat) s)).nums = _
  unfold movesA
  rw [moves_is]
  cases Kzk1.good n s (t.map Int.toNat) with
  | false => simp [Kzk1.say, Kzk4Neutral.ints]
  | true => simp [Kzk1.told, Kzk4Neutral.ints]
end Tw
namespace Tw
/-! ### one change keeps to the states -/
theorem add_lt {s j n : Nat} (h : s < 2 ^ n) (hj : j < n) (b : bitN s j = 0) : s + 2 ^ j < 2 ^ n := by
  obtain ⟨d, rfl⟩ : ∃ d, n = j + 1 + d := ⟨n - (j + 1), by omega⟩
  have e : 2 ^ (j + 1 + d) = 2 ^ j * 2 * 2 ^ d := by rw [Nat.pow_add, Nat.pow_succ]
  have p : 0 < 2 ^ j := Nat.pow_pos (by decide)
  have h1 := Nat.div_add_mod s (2 ^ j)
  have h2 := Nat.mod_lt s p
  unfold bitN at b
  rw [e] at h ⊢
  generalize s / 2 ^ j = q at *
  generalize s % 2 ^ j = r at *
  obtain ⟨c, rfl⟩ : ∃ c, q = 2 * c := ⟨q / 2, by omega⟩
  have e2 : 2 ^ j * (2 * c) = 2 ^ j * 2 * c := by rw [Nat.mul_assoc]
  have hc : c < 2 ^ d := by
    refine Nat.lt_of_mul_lt_mul_left (a := 2 ^ j * 2) ?_
    omega
  have h3 : 2 ^ j * 2 * (c + 1) ≤ 2 ^ j * 2 * 2 ^ d := Nat.mul_le_mul_left _ hc
  rw [Nat.mul_add] at h3
  omega
/-- the state with tower j's flag changed -/
def flip (s j : Nat) : Nat := if bitN s j = 1 then s - 2 ^ j else s + 2 ^ j
theorem flip_lt {s j n : Nat} (h : s < 2 ^ n) (hj : j < n) : flip s j < 2 ^ n := by
  unfold flip
  split
  · exact Nat.lt_of_le_of_lt (Nat.sub_le _ _) h
  · rename_i q
    have := bitN_lt s j
    exact add_lt h hj (by omega)
theorem one_flip {t : List Nat} {s j : Nat} (h : chg t s j = true) : Kzk3.one t s j = flip s j := by
  have h1 := bitN_lt (t.getD j 0) s
  have h2 := bitN_lt s j
  have hc : bitN (t.getD j 0) s ≠ bitN s j := of_decide_eq_true h
  unfold Kzk3.one Kzk1.isUp flip
  rw [bit_is, bit_is]
  generalize bitN (t.getD j 0) s = x at *
  generalize bitN s j = y at *
  have hx : x = 0 ∨ x = 1 := by omega
  have hy : y = 0 ∨ y = 1 := by omega
  rcases hx with rfl | rfl <;> rcases hy with rfl | rfl <;> simp at *
def Step (n : Nat) (t : List Nat) (a b : Nat) : Prop := ∃ j, j < n ∧ chg t a j = true ∧ flip a j = b
theorem Step.lt {n : Nat} {t : List Nat} {a b : Nat} (h : Step n t a b) (ha : a < 2 ^ n) : b < 2 ^ n := by
  obtain ⟨j, hj, _, rfl⟩ := h
  exact flip_lt ha hj
theorem mem_states {n x : Nat} : x ∈ Kzk1.states n ↔ x < 2 ^ n := by
  unfold Kzk1.states
  exact List.mem_range
theorem mem_wider {n : Nat} {t l : List Nat} {x : Nat} : x ∈ Kzk4.wider n t l ↔ x < 2 ^ n ∧ (x ∈ l ∨ ∃ y, y ∈ l ∧ Step n t y x) := by
  unfold Kzk4.wider
  rw [List.mem_filter, mem_states, Bool.or_eq_true, List.contains_iff_mem, List.any_eq_true]
  refine and_congr_right fun _ => or_congr_right ⟨?_, ?_⟩
  · rintro ⟨y, hy, h⟩
    rw [List.any_eq_true] at h
    obtain ⟨j, hj, h⟩ := h
    rw [moves_is, List.mem_filter, List.mem_range] at hj
    exact ⟨y, hy, j, hj.1, hj.2, by rw [← one_flip hj.2]; exact eq_of_beq h⟩
  · rintro ⟨y, hy, j, hj, hc, h⟩
    refine ⟨y, hy, ?_⟩
    rw [List.any_eq_true]
    refine ⟨j, ?_, ?_⟩
    · rw [moves_is, List.mem_filter, List.mem_range]
      exact ⟨hj, hc⟩
    · rw [one_flip hc, h]
      exact beq_self_eq_true x
/-! ### within k changes -/
def W (n : Nat) (t : List Nat) (s : Nat) : Nat → Nat → Prop
  | 0, x => x = s
  | k + 1, x => W n t s k x ∨ ∃ y, W n t s k y ∧ Step n t y x
def lvl (n : Nat) (t : List Nat) (s : Nat) : Nat → List Nat
  | 0 => [s]
  | k + 1 => Kzk4.wider n t (lvl n t s k)
theorem W.lt {n : Nat} {t : List Nat} {s : Nat} (hs : s < 2 ^ n) : ∀ {k x : Nat}, W n t s k x → x < 2 ^ n
  | 0, x, h => by
    have e : x = s := h
    rw [e]
    exact hs
  | k + 1, x, h => by
    rcases h with h | ⟨y, hy, h⟩
    · exact W.lt hs h
    · exact h.lt (W.lt hs hy)
theorem mem_lvl {n : Nat} {t : List Nat} {s : Nat} (hs : s < 2 ^ n) : ∀ {k x : Nat}, x ∈ lvl n t s k ↔ W n t s k x
  | 0, x => by
    show x ∈ [s] ↔ x = s
    exact List.mem_singleton
  | k + 1, x => by
    show x ∈ Kzk4.wider n t (lvl n t s k) ↔ _
    rw [mem_wider]
    constructor
    · rintro ⟨_, h | ⟨y, hy, h⟩⟩
      · exact .inl ((mem_lvl hs).mp h)
      · exact .inr ⟨y, (mem_lvl hs).mp hy, h⟩
    · intro h
      refine ⟨W.lt hs h, ?_⟩
      rcases h with h | ⟨y, hy, h⟩
      · exact .inl ((mem_lvl hs).mpr h)
      · exact .inr ⟨y, (mem_lvl hs).mpr hy, h⟩
theorem W.mono {n : Nat} {t : List Nat} {s : Nat} {k x : Nat} : ∀ {m : Nat}, k ≤ m → W n t s k x → W n t s m x
  | 0, h, w => by
    have e : k = 0 := by omega
    rw [e] at w
    exact w
  | m + 1, h, w => by
    by_cases e : k = m + 1
    · rw [e] at w
      exact w
    · exact .inl (W.mono (by omega) w)
theorem fold_lvl {n : Nat} {t : List Nat} {s : Nat} : ∀ m : Nat, (List.range m).foldl (fun l _ => Kzk4.wider n t l) [s] = lvl n t s m
  | 0 => rfl
  | m + 1 => by
    rw [List.range_succ, List.foldl_append, fold_lvl m]
    rfl
theorem reach_lvl (n : Nat) (t : List Nat) (s : Nat) : Kzk4.reach n t s = lvl n t s (2 ^ n) := fold_lvl (2 ^ n)
/-! ### it ends -/
theorem filter_lt {α : Type} {p q : α → Bool} : ∀ {l : List α}, (∀ x ∈ l, p x = true → q x = true) → (∃ x ∈ l, p x = false ∧ q x = true) → (l.filter p).length < (l.filter q).length
  | [], _, h => by
    obtain ⟨x, hx, _⟩ := h
    cases hx
  | a :: l, hi, h => by
    have le : ∀ {l : List α}, (∀ x ∈ l, p x = true → q x = true) → (l.filter p).length ≤ (l.filter q).length := fun {l} => by
      induction l with
      | nil => intro _; exact Nat.le_refl _
      | cons b l ih =>
        intro hi
        have := ih fun x hx => hi x (List.mem_cons_of_mem _ hx)
        have hb := hi b List.mem_cons_self
        rw [List.filter_cons, List.filter_cons]
        cases pb : p b with
        | true =>
          rw [hb pb]
          simp
          exact this
        | false =>
          cases qb : q b with
          | true => simp; omega
          | false => simp; exact this
    have hl := le fun x hx => hi x (List.mem_cons_of_mem _ hx)
    have ha := hi a List.mem_cons_self
    obtain ⟨x, hx, hp, hq⟩ := h
    rw [List.filter_cons, List.filter_cons]
    rcases List.mem_cons.mp hx with rfl | hx
    · rw [hp, hq]
      simp
      omega
    · have := filter_lt (fun x hx => hi x (List.mem_cons_of_mem _ hx)) ⟨x, hx, hp, hq⟩
      cases pa : p a with
      | true =>
        rw [ha pa]
        simp
        exact this
      | false =>
        cases qa : q a with
        | true => simp; omega
        | false => simp; exact this
def Closed (n : Nat) (t : List Nat) (s k : Nat) : Prop := ∀ x, W n t s (k + 1) x → W n t s k x
theorem Closed.next {n : Nat} {t : List Nat} {s k : Nat} (h : Closed n t s k) : Closed n t s (k + 1) := by
  intro x w
  rcases w with w | ⟨y, hy, st⟩
  · exact w
  · exact .inr ⟨y, h y hy, st⟩
theorem Closed.on {n : Nat} {t : List Nat} {s k : Nat} (h : Closed n t s k) : ∀ {m : Nat}, k ≤ m → Closed n t s m
  | 0, e => by
    have z : k = 0 := by omega
    rw [z] at h
    exact h
  | m + 1, e => by
    by_cases z : k = m + 1
    · rw [z] at h
      exact h
    · exact (Closed.on h (by omega)).next
theorem Closed.all {n : Nat} {t : List Nat} {s k : Nat} (h : Closed n t s k) {x : Nat} : ∀ {m : Nat}, W n t s m x → W n t s k x
  | 0, w => W.mono (Nat.zero_le _) w
  | m + 1, w => by
    by_cases e : m + 1 ≤ k
    · exact W.mono e w
    · exact Closed.all h ((h.on (by omega : k ≤ m)) x w)
def cnt (n : Nat) (t : List Nat) (s k : Nat) : Nat := ((List.range (2 ^ n)).filter fun x => (lvl n t s k).contains x).length
theorem cnt_or {n : Nat} {t : List Nat} {s : Nat} (hs : s < 2 ^ n) : ∀ k : Nat, Closed n t s k ∨ k + 1 < cnt n t s (k + 1)
  | k => by
    by_cases c : Closed n t s k
    · exact .inl c
    · refine .inr ?_
      have grow : ∀ k, ¬ Closed n t s k → cnt n t s k < cnt n t s (k + 1) := fun k c => by
        refine filter_lt (fun x _ h => ?_) ?_
        · rw [List.contains_iff_mem] at h ⊢
          exact (mem_lvl hs).mpr (.inl ((mem_lvl hs).mp h))
        · refine Classical.byContradiction fun no => c fun x w => Classical.byContradiction fun nw => no ⟨x, List.mem_range.mpr (W.lt hs w), ?_, ?_⟩
          · rw [Bool.eq_false_iff]
            intro z
            rw [List.contains_iff_mem] at z
            exact nw ((mem_lvl hs).mp z)
          · rw [List.contains_iff_mem]
            exact (mem_lvl hs).mpr w
      have many : ∀ m, m ≤ k → m + 1 < cnt n t s (m + 1) := fun m => by
        induction m with
        | zero =>
          intro _
          have g := grow 0 fun z => c (z.on (Nat.zero_le _))
          have one : 0 < cnt n t s 0 := List.length_pos_of_mem (a := s) (List.mem_filter.mpr ⟨List.mem_range.mpr hs, by rw [List.contains_iff_mem]; exact List.mem_singleton.mpr rfl⟩)
          omega
        | succ m ih =>
          intro hm
          have g := grow (m + 1) fun z => c (z.on hm)
          have := ih (by omega)
          omega
      exact many k (Nat.le_refl _)
/-- behind one change fewer than there are states nothing new comes -/
theorem closed_end {n : Nat} {t : List Nat} {s : Nat} (hs : s < 2 ^ n) : Closed n t s (2 ^ n - 1) := by
  rcases cnt_or (t := t) hs (2 ^ n - 1) with h | h
  · exact h
  · have le : cnt n t s (2 ^ n - 1 + 1) ≤ 2 ^ n := Nat.le_trans (List.length_filter_le _ _) (by rw [List.length_range]; exact Nat.le_refl _)
    omega
/-! ### come to -/
def Come (n : Nat) (t : List Nat) (s x : Nat) : Prop := ∃ k, W n t s k x
theorem Come.refl {n : Nat} {t : List Nat} {s : Nat} : Come n t s s := ⟨0, rfl⟩
theorem Come.step {n : Nat} {t : List Nat} {s x y : Nat} (h : Come n t s x) (st : Step n t x y) : Come n t s y := by
  obtain ⟨k, w⟩ := h
  exact ⟨k + 1, .inr ⟨x, w, st⟩⟩
theorem Come.ind {n : Nat} {t : List Nat} {s : Nat} {Pr : Nat → Prop} (h0 : Pr s) (hs : ∀ x y, Come n t s x → Pr x → Step n t x y → Pr y) {x : Nat} (h : Come n t s x) : Pr x := by
  obtain ⟨k, w⟩ := h
  induction k generalizing x with
  | zero =>
    have e : x = s := w
    rw [e]
    exact h0
  | succ k ih =>
    rcases w with w | ⟨y, w, st⟩
    · exact ih w
    · exact hs y x ⟨k, w⟩ (ih w) st
theorem Come.trans {n : Nat} {t : List Nat} {a b c : Nat} (h : Come n t a b) (k : Come n t b c) : Come n t a c :=
  Come.ind (Pr := fun x => Come n t a x) h (fun _ _ _ p st => p.step st) k
theorem Come.lt {n : Nat} {t : List Nat} {s x : Nat} (hs : s < 2 ^ n) (h : Come n t s x) : x < 2 ^ n := by
  obtain ⟨k, w⟩ := h
  exact w.lt hs
theorem come_within {n : Nat} {t : List Nat} {s x : Nat} (hs : s < 2 ^ n) {m : Nat} (hm : 2 ^ n - 1 ≤ m) : Come n t s x ↔ W n t s m x := by
  refine ⟨fun ⟨k, w⟩ => ?_, fun w => ⟨m, w⟩⟩
  exact ((closed_end hs).on hm).all w
theorem mem_reach {n : Nat} {t : List Nat} {s x : Nat} (hs : s < 2 ^ n) : x ∈ Kzk4.reach n t s ↔ Come n t s x := by
  rw [reach_lvl, mem_lvl hs, come_within hs (m := 2 ^ n) (Nat.sub_le _ _)]
/-! ### rising lists -/
theorem rising_ext : ∀ {l m : List Nat}, l.Pairwise (· < ·) → m.Pairwise (· < ·) → (∀ x, x ∈ l ↔ x ∈ m) → l = m
  | [], [], _, _, _ => rfl
  | [], b :: m, _, _, h => by
    have := (h b).mpr List.mem_cons_self
    cases this
  | a :: l, [], _, _, h => by
    have := (h a).mp List.mem_cons_self
    cases this
  | a :: l, b :: m, hl, hm, h => by
    rw [List.pairwise_cons] at hl hm
    have ab : a = b := by
      rcases List.mem_cons.mp ((h a).mp List.mem_cons_self) with e | e
      · exact e
      · rcases List.mem_cons.mp ((h b).mpr List.mem_cons_self) with e2 | e2
        · exact e2.symm
        · have h1 := hl.1 b e2
          have h2 := hm.1 a e
          omega
    subst ab
    refine congrArg _ (rising_ext hl.2 hm.2 fun x => ?_)
    constructor
    · intro hx
      rcases List.mem_cons.mp ((h x).mp (List.mem_cons_of_mem _ hx)) with e | e
      · have := hl.1 x hx
        omega
      · exact e
    · intro hx
      rcases List.mem_cons.mp ((h x).mpr (List.mem_cons_of_mem _ hx)) with e | e
      · have := hm.1 x hx
        omega
      · exact e
theorem range_rising (m : Nat) (p : Nat → Bool) : ((List.range m).filter p).Pairwise (· < ·) := List.Pairwise.filter p List.pairwise_lt_range
theorem reach_rising (n : Nat) (t : List Nat) (s : Nat) : (Kzk4.reach n t s).Pairwise (· < ·) := by
  rw [reach_lvl]
  obtain ⟨m, e⟩ : ∃ m, 2 ^ n = m + 1 := ⟨2 ^ n - 1, by have : 0 < 2 ^ n := Nat.pow_pos (by decide); omega⟩
  rw [e]
  exact range_rising _ _
/-- a list of all the states with some test is reach's, if the test is «come to» -/
theorem reach_filter {n : Nat} {t : List Nat} {s : Nat} (hs : s < 2 ^ n) {p : Nat → Bool} (h : ∀ x, x < 2 ^ n → (p x = true ↔ Come n t s x)) : Kzk4.reach n t s = (List.range (2 ^ n)).filter p := by
  refine rising_ext (reach_rising n t s) (range_rising _ _) fun x => ?_
  rw [mem_reach hs, List.mem_filter, List.mem_range]
  constructor
  · intro c
    exact ⟨c.lt hs, (h x (c.lt hs)).mpr c⟩
  · rintro ⟨hx, q⟩
    exact (h x hx).mp q
/-! ### far -/
theorem farOn_some {n : Nat} {t : List Nat} {s x : Nat} : ∀ (f k m : Nat), k ≤ m → m < k + f → x ∈ lvl n t s m → (∀ i, k ≤ i → i < m → x ∉ lvl n t s i) → Kzk4.farOn n t x f k (lvl n t s k) = some m
  | 0, k, m, h1, h2, _, _ => by omega
  | f + 1, k, m, h1, h2, h3, h4 => by
    show (if (lvl n t s k).contains x then some k else Kzk4.farOn n t x f (k + 1) (lvl n t s (k + 1))) = some m
    by_cases e : k = m
    · subst e
      rw [if_pos (by rw [List.contains_iff_mem]; exact h3)]
    · rw [if_neg (by rw [List.contains_iff_mem]; exact h4 k (Nat.le_refl _) (by omega))]
      exact farOn_some f (k + 1) m (by omega) (by omega) h3 fun i a b => h4 i (by omega) b
theorem farOn_none {n : Nat} {t : List Nat} {s x : Nat} : ∀ (f k : Nat), (∀ i, k ≤ i → i < k + f → x ∉ lvl n t s i) → Kzk4.farOn n t x f k (lvl n t s k) = none
  | 0, k, _ => rfl
  | f + 1, k, h => by
    show (if (lvl n t s k).contains x then some k else Kzk4.farOn n t x f (k + 1) (lvl n t s (k + 1))) = none
    rw [if_neg (by rw [List.contains_iff_mem]; exact h k (Nat.le_refl _) (by omega))]
    exact farOn_none f (k + 1) fun i a b => h i (by omega) (by omega)
theorem far_some {n : Nat} {t : List Nat} {s x m : Nat} (hs : s < 2 ^ n) (w : W n t s m x) (least : ∀ i, i < m → ¬ W n t s i x) : Kzk4.far n t s x = some m := by
  refine farOn_some (2 ^ n + 1) 0 m (Nat.zero_le _) ?_ ((mem_lvl hs).mpr w) fun i _ h q => least i h ((mem_lvl hs).mp q)
  have := (come_within (x := x) (t := t) hs (Nat.le_refl (2 ^ n - 1))).mp ⟨m, w⟩
  have p : 0 < 2 ^ n := Nat.pow_pos (by decide)
  rcases Nat.lt_or_ge (2 ^ n - 1) m with h | h
  · exact (least _ h this).elim
  · omega
theorem far_none {n : Nat} {t : List Nat} {s x : Nat} (hs : s < 2 ^ n) (h : ¬ Come n t s x) : Kzk4.far n t s x = none :=
  farOn_none (2 ^ n + 1) 0 fun i _ _ q => h ⟨i, (mem_lvl hs).mp q⟩
end Tw
namespace Tw
/-! ### at rest -/
theorem make_succ (n : Nat) (p : Nat → Bool) : Kzk1.make (n + 1) p = Kzk1.make n p + if p n then 2 ^ n else 0 := by
  unfold Kzk1.make Kzk1.sum
  rw [List.range_succ, List.map_append, List.foldl_append]
  rfl
theorem make_lt (p : Nat → Bool) : ∀ n : Nat, Kzk1.make n p < 2 ^ n
  | 0 => Nat.zero_lt_one
  | n + 1 => by
    rw [make_succ, Nat.pow_succ]
    have := make_lt p n
    split <;> omega
theorem make_bit (p : Nat → Bool) : ∀ {n j : Nat}, j < n → bitN (Kzk1.make n p) j = if p j then 1 else 0
  | n + 1, j, h => by
    rw [make_succ]
    have lt := make_lt p n
    have pos : ∀ i, 0 < 2 ^ i := fun i => Nat.pow_pos (by decide)
    by_cases e : j = n
    · subst e
      unfold bitN
      split
      · rw [Nat.add_div_right _ (pos j), Nat.div_eq_of_lt lt]
      · rw [Nat.add_zero, Nat.div_eq_of_lt lt]
    · have ih := make_bit p (n := n) (j := j) (by omega)
      rw [← ih]
      unfold bitN
      obtain ⟨d, rfl⟩ : ∃ d, n = j + 1 + d := ⟨n - (j + 1), by omega⟩
      have e2 : 2 ^ (j + 1 + d) = 2 ^ j * (2 * 2 ^ d) := by rw [Nat.pow_add, Nat.pow_succ, Nat.mul_assoc]
      split
      · rw [e2, Nat.add_mul_div_left _ _ (pos j)]
        omega
      · rw [Nat.add_zero]
theorem make_bits (s : Nat) : ∀ n : Nat, Kzk1.make n (fun j => decide (bitN s j = 1)) = s % 2 ^ n
  | 0 => by
    rw [Nat.pow_zero, Nat.mod_one]
    rfl
  | n + 1 => by
    rw [make_succ, make_bits s n, Nat.mod_pow_succ]
    congr 1
    have := bitN_lt s n
    by_cases h : bitN s n = 1
    · rw [if_pos (decide_eq_true h)]
      unfold bitN at h
      rw [h, Nat.mul_one]
    · have h0 : bitN s n = 0 := by omega
      rw [if_neg (by rw [decide_eq_true_eq]; exact h)]
      unfold bitN at h0
      rw [h0, Nat.mul_zero]
theorem chg_false {t : List Nat} {s j : Nat} : chg t s j = false ↔ bitN (t.getD j 0) s = bitN s j := by
  unfold chg
  rw [decide_eq_false_iff_not, Decidable.not_not]
def Rest (n : Nat) (t : List Nat) (s : Nat) : Prop := ∀ j, j < n → chg t s j = false
theorem make_congr {p q : Nat → Bool} : ∀ {n : Nat}, (∀ j, j < n → p j = q j) → Kzk1.make n p = Kzk1.make n q
  | 0, _ => rfl
  | n + 1, h => by
    rw [make_succ, make_succ, make_congr fun j hj => h j (by omega), h n (by omega)]
theorem next_rest {n : Nat} {t : List Nat} {s : Nat} (hs : s < 2 ^ n) : Kzk1.next n t s = s ↔ Rest n t s := by
  unfold Kzk1.next
  constructor
  · intro e j hj
    rw [chg_false]
    have b := make_bit (fun j => Kzk1.isUp t j s) hj
    rw [e] at b
    unfold Kzk1.isUp at b
    rw [bit_is] at b
    have h1 := bitN_lt (t.getD j 0) s
    rw [b]
    by_cases h : bitN (t.getD j 0) s = 1
    · rw [if_pos (decide_eq_true h), h]
    · rw [if_neg (by rw [decide_eq_true_eq]; exact h)]
      omega
  · intro r
    have e : Kzk1.make n (fun j => Kzk1.isUp t j s) = Kzk1.make n (fun j => decide (bitN s j = 1)) := make_congr fun j hj => by
      unfold Kzk1.isUp
      rw [bit_is, chg_false.mp (r j hj)]
    rw [e, make_bits, Nat.mod_eq_of_lt hs]
theorem rest_moves {n : Nat} {t : List Nat} {s : Nat} : Rest n t s ↔ (List.range n).filter (chg t s) = [] := by
  rw [List.filter_eq_nil_iff]
  constructor
  · intro r j hj
    rw [r j (List.mem_range.mp hj)]
    exact Bool.false_ne_true
  · intro h j hj
    exact Bool.eq_false_iff.mpr (h j (List.mem_range.mpr hj))
/-! ### what is due, in numbers that are not below 0 -/
def asI (l : List Nat) : List Int := l.map fun x : Nat => (x : Int)
def reachA (n s : Nat) (t : List Nat) : List Int := if Kzk1.good n s t = true then ((Kzk4.reach n t s).length : Int) :: asI (Kzk4.reach n t s) else [-22]
theorem reach_spec (n s : Nat) (t : List Int) : PyKzk4.reach n s t = reachA n s (t.map Int.toNat) := by
  show (if Kzk1.good n s (t.map Int.toNat) = false then Kzk1.say (-22) else Kzk1.told (Kzk4.reach n (t.map Int.toNat) s)).value :: Kzk4Neutral.ints (if Kzk1.good n s (t.map Int.toNat) = false then Kzk1.say (-22) else Kzk1.told (Kzk4.reach n (t.map Int.toNat) s)).nums = _
  unfold reachA
  cases Kzk1.good n s (t.map Int.toNat) with
  | false => simp [Kzk1.say, Kzk4Neutral.ints]
  | true => simp [Kzk1.told, Kzk4Neutral.ints, asI]
def farA (n s x : Nat) (t : List Nat) : List Int := if Kzk1.good n s t = true ∧ x < 2 ^ n then (match Kzk4.far n t s x with | none => [-33] | some k => [(k : Int)]) else [-22]
theorem far_spec (n s x : Nat) (t : List Int) : PyKzk4.far n s x t = farA n s x (t.map Int.toNat) := by
  have e : PyKzk4.far n s x t = (Kzk4.answer (.far n s x (t.map Int.toNat))).value :: Kzk4Neutral.ints (Kzk4.answer (.far n s x (t.map Int.toNat))).nums := rfl
  rw [e]
  unfold Kzk4.answer farA
  dsimp only
  by_cases h : Kzk1.good n s (t.map Int.toNat) = false ∨ 2 ^ n ≤ x
  · rw [if_pos h, if_neg]
    · rfl
    · rintro ⟨h1, h2⟩
      rcases h with h | h
      · rw [h1] at h
        cases h
      · omega
  · rw [if_neg h, if_pos ⟨by
      cases q : Kzk1.good n s (t.map Int.toNat) with
      | true => rfl
      | false => exact (h (.inl q)).elim, by
      have : ¬ 2 ^ n ≤ x := fun z => h (.inr z)
      omega⟩]
    cases Kzk4.far n (t.map Int.toNat) s x with
    | none => rfl
    | some k => rfl
def trapsA (n : Nat) (t : List Nat) : List Int := if Kzk1.okTowers n t = true then ((Kzk4.traps n t).length : Int) :: asI ((Kzk4.traps n t).flatMap fun s => [s, (Kzk4.reach n t s).length]) else [-22]
theorem traps_spec (n : Nat) (t : List Int) : PyKzk4.traps n t = trapsA n (t.map Int.toNat) := by
  have e : PyKzk4.traps n t = (Kzk4.answer (.traps n (t.map Int.toNat))).value :: Kzk4Neutral.ints (Kzk4.answer (.traps n (t.map Int.toNat))).nums := rfl
  rw [e]
  unfold Kzk4.answer trapsA
  dsimp only
  cases Kzk1.okTowers n (t.map Int.toNat) with
  | false => rfl
  | true => rfl
def mayA (n s : Nat) (t : List Nat) : List Int := if Kzk1.good n s t = true then [if Kzk4.surely n t s = true then 2 else if Kzk4.mayRest n t s = true then 1 else 0] else [-22]
theorem may_spec (n s : Nat) (t : List Int) : PyKzk4.may n s t = mayA n s (t.map Int.toNat) := by
  have e : PyKzk4.may n s t = (Kzk4.answer (.may n s (t.map Int.toNat))).value :: Kzk4Neutral.ints (Kzk4.answer (.may n s (t.map Int.toNat))).nums := rfl
  rw [e]
  unfold Kzk4.answer mayA
  dsimp only
  cases Kzk1.good n s (t.map Int.toNat) with
  | false => rfl
  | true =>
    rw [if_neg (by decide), if_pos rfl]
    rfl
/-! ### traps and rest by what is come to -/
theorem inTrap_iff {n : Nat} {t : List Nat} {s : Nat} (hs : s < 2 ^ n) : Kzk4.inTrap n t s = true ↔ ∀ x, Come n t s x → Come n t x s := by
  unfold Kzk4.inTrap
  rw [List.all_eq_true]
  constructor
  · intro h x c
    have := h x ((mem_reach hs).mpr c)
    rw [List.contains_iff_mem, mem_reach (c.lt hs)] at this
    exact this
  · intro h x hx
    have c := (mem_reach hs).mp hx
    rw [List.contains_iff_mem, mem_reach (c.lt hs)]
    exact h x c
theorem least_iff {n : Nat} {t : List Nat} {s : Nat} (hs : s < 2 ^ n) : ((Kzk4.reach n t s).all fun x => decide (s ≤ x)) = true ↔ ∀ x, Come n t s x → s ≤ x := by
  rw [List.all_eq_true]
  constructor
  · intro h x c
    exact of_decide_eq_true (h x ((mem_reach hs).mpr c))
  · intro h x hx
    exact decide_eq_true (h x ((mem_reach hs).mp hx))
theorem mayRest_iff {n : Nat} {t : List Nat} {s : Nat} (hs : s < 2 ^ n) : Kzk4.mayRest n t s = true ↔ ∃ x, Come n t s x ∧ Rest n t x := by
  unfold Kzk4.mayRest
  rw [List.any_eq_true]
  constructor
  · rintro ⟨x, hx, e⟩
    have c := (mem_reach hs).mp hx
    exact ⟨x, c, (next_rest (c.lt hs)).mp (eq_of_beq e)⟩
  · rintro ⟨x, c, r⟩
    refine ⟨x, (mem_reach hs).mpr c, ?_⟩
    rw [(next_rest (c.lt hs)).mpr r]
    exact beq_self_eq_true x
theorem surely_iff {n : Nat} {t : List Nat} {s : Nat} (hs : s < 2 ^ n) : Kzk4.surely n t s = true ↔ ∀ x, Come n t s x → ∃ y, Come n t x y ∧ Rest n t y := by
  unfold Kzk4.surely
  rw [List.all_eq_true]
  constructor
  · intro h x c
    exact (mayRest_iff (c.lt hs)).mp (h x ((mem_reach hs).mpr c))
  · intro h x hx
    have c := (mem_reach hs).mp hx
    exact (mayRest_iff (c.lt hs)).mpr (h x c)
/-! ### a flag changed by the bit operator -/
theorem flip_xor : ∀ (j s : Nat), s ^^^ 2 ^ j = flip s j
  | 0, s => by
    have h1 := Nat.xor_div_two (a := s) (b := 1)
    have h2 := @Nat.xor_mod_two_eq_one s 1
    unfold flip bitN
    rw [Nat.pow_zero]
    rw [show 1 / 2 = 0 from rfl, Nat.xor_zero] at h1
    generalize s ^^^ 1 = z at *
    split <;> omega
  | j + 1, s => by
    have ih := flip_xor j (s / 2)
    have e : 2 ^ (j + 1) / 2 = 2 ^ j := by
      rw [Nat.pow_succ]
      omega
    have e2 : 2 ^ (j + 1) % 2 = 0 := by
      rw [Nat.pow_succ]
      omega
    have h1 := Nat.xor_div_two (a := s) (b := 2 ^ (j + 1))
    have h2 := @Nat.xor_mod_two_eq_one s (2 ^ (j + 1))
    rw [e, ih] at h1
    generalize s ^^^ 2 ^ (j + 1) = z at *
    have hb : bitN s (j + 1) = bitN (s / 2) j := by
      unfold bitN
      rw [Nat.div_div_eq_div_mul, Nat.pow_succ, Nat.mul_comm 2]
    have hp : 2 ^ (j + 1) = 2 * 2 ^ j := by
      rw [Nat.pow_succ]
      omega
    have hge : bitN (s / 2) j = 1 → 2 ^ j ≤ s / 2 := bit_ge
    unfold flip at h1 ⊢
    rw [hb]
    split <;> rename_i q
    · rw [if_pos q] at h1
      have := hge q
      omega
    · rw [if_neg q] at h1
      omega
end Tw
namespace Tw
/-! ### a search round by round -/
/-- the new ones of ys: not in ks, each once, behind f -/
def grow (ks : List Nat) : List Nat → List Nat → List Nat
  | f, [] => f
  | f, y :: ys => grow ks (if y ∈ ks ∨ y ∈ f then f else f ++ [y]) ys
theorem grow_append (ks : List Nat) : ∀ (ys zs f : List Nat), grow ks f (ys ++ zs) = grow ks (grow ks f ys) zs
  | [], zs, f => rfl
  | y :: ys, zs, f => grow_append ks ys zs _
theorem mem_grow {ks : List Nat} {x : Nat} : ∀ {ys f : List Nat}, x ∈ grow ks f ys ↔ x ∈ f ∨ (x ∈ ys ∧ x ∉ ks)
  | [], f => by
    show x ∈ f ↔ _
    simp
  | y :: ys, f => by
    show x ∈ grow ks (if y ∈ ks ∨ y ∈ f then f else f ++ [y]) ys ↔ _
    rw [mem_grow (ys := ys)]
    by_cases c : y ∈ ks ∨ y ∈ f
    · rw [if_pos c, List.mem_cons]
      constructor
      · rintro (h | ⟨h, k⟩)
        · exact .inl h
        · exact .inr ⟨.inr h, k⟩
      · rintro (h | ⟨rfl | h, k⟩)
        · exact .inl h
        · rcases c with c | c
          · exact absurd c k
          · exact .inl c
        · exact .inr ⟨h, k⟩
    · rw [if_neg c, List.mem_append, List.mem_singleton, List.mem_cons]
      constructor
      · rintro ((h | rfl) | ⟨h, k⟩)
        · exact .inl h
        · exact .inr ⟨.inl rfl, fun z => c (.inl z)⟩
        · exact .inr ⟨.inr h, k⟩
      · rintro (h | ⟨rfl | h, k⟩)
        · exact .inl (.inl h)
        · exact .inl (.inr rfl)
        · exact .inr ⟨h, k⟩
theorem grow_nodup {ks : List Nat} : ∀ {ys f : List Nat}, (ks ++ f).Nodup → (ks ++ grow ks f ys).Nodup
  | [], f, h => h
  | y :: ys, f, h => by
    refine grow_nodup (ys := ys) ?_
    by_cases c : y ∈ ks ∨ y ∈ f
    · rw [if_pos c]
      exact h
    · rw [if_neg c, ← List.append_assoc]
      refine List.nodup_append.mpr ⟨h, by simp, fun a ha b hb e => ?_⟩
      rw [List.mem_singleton.mp hb] at e
      rw [e] at ha
      exact c (List.mem_append.mp ha)
/-- no number twice, each below m: at most m -/
theorem nodup_few : ∀ {m : Nat} {l : List Nat}, l.Nodup → (∀ x ∈ l, x < m) → l.length ≤ m
  | 0, [], _, _ => Nat.le_refl 0
  | 0, a :: l, _, k => absurd (k a List.mem_cons_self) (Nat.not_lt_zero a)
  | m + 1, l, h, k => by
    by_cases c : m ∈ l
    · have i := nodup_few (m := m) (l := l.erase m) (h.erase m) fun x hx => by
        have e := (List.Nodup.mem_erase_iff h).mp hx
        have := k x e.2
        have := e.1
        omega
      rw [List.length_erase_of_mem c] at i
      omega
    · have i := nodup_few (m := m) h fun x hx => by
        have := k x hx
        have : x ≠ m := fun z => c (z ▸ hx)
        omega
      omega
/-- what one change leads to from x -/
def beh (n : Nat) (t : List Nat) (x : Nat) : List Nat := ((List.range n).filter (chg t x)).map (flip x)
theorem mem_beh {n : Nat} {t : List Nat} {x y : Nat} : y ∈ beh n t x ↔ Step n t x y := by
  unfold beh Step
  rw [List.mem_map]
  constructor
  · rintro ⟨j, h, e⟩
    rw [List.mem_filter, List.mem_range] at h
    exact ⟨j, h.1, h.2, e⟩
  · rintro ⟨j, h, c, e⟩
    exact ⟨j, List.mem_filter.mpr ⟨List.mem_range.mpr h, c⟩, e⟩
theorem beh_len (n : Nat) (t : List Nat) (x : Nat) : (beh n t x).length ≤ n := by
  unfold beh
  rw [List.length_map]
  exact Nat.le_trans (List.length_filter_le _ _) (by rw [List.length_range]; exact Nat.le_refl _)
/-- the fewest changes from s to x are m -/
def Dist (n : Nat) (t : List Nat) (s x m : Nat) : Prop := W n t s m x ∧ ∀ i, i < m → ¬ W n t s i x
/-- behind k rounds: the states within k changes, each with its fewest; the latest are those of just k -/
structure Round (n : Nat) (t : List Nat) (s k : Nat) (kvs : List (Nat × Nat)) (la : List Nat) : Prop where
  keys : ∀ x, x ∈ kvs.map (·.1) ↔ W n t s k x
  dist : ∀ q ∈ kvs, Dist n t s q.1 q.2
  late : ∀ x, x ∈ la ↔ (x, k) ∈ kvs
  nd : (kvs.map (·.1)).Nodup
theorem Round.start (n : Nat) (t : List Nat) (s : Nat) : Round n t s 0 [(s, 0)] [s] where
  keys := fun x => by
    show x ∈ [s] ↔ x = s
    exact List.mem_singleton
  dist := fun q hq => by
    rw [List.mem_singleton.mp hq]
    exact ⟨rfl, fun i hi => absurd hi (Nat.not_lt_zero i)⟩
  late := fun x => by
    rw [List.mem_singleton, List.mem_singleton]
    exact ⟨fun e => by rw [e], fun e => (Prod.mk.inj e).1⟩
  nd := by
    show ([s] : List Nat).Nodup
    simp
theorem Dist.one {n : Nat} {t : List Nat} {s x m k : Nat} (a : Dist n t s x m) (b : Dist n t s x k) : m = k := by
  rcases Nat.lt_trichotomy m k with h | h | h
  · exact absurd a.1 (b.2 m h)
  · exact h
  · exact absurd b.1 (a.2 k h)
/-- a state within k changes that isn't of the latest is within fewer, and what it leads to within k -/
theorem Round.old {n : Nat} {t : List Nat} {s k : Nat} {kvs : List (Nat × Nat)} {la : List Nat} (R : Round n t s k kvs la) {z x : Nat} (hz : W n t s k z) (hn : z ∉ la) (st : Step n t z x) : W n t s k x := by
  obtain ⟨q, hq, e⟩ := List.mem_map.mp ((R.keys z).mpr hz)
  have e : q.1 = z := e
  have d := R.dist q hq
  rw [e] at d
  have hm : q.2 < k := by
    rcases Nat.lt_trichotomy q.2 k with h | h | h
    · exact h
    · refine absurd ((R.late z).mpr ?_) hn
      rw [← h, ← e]
      exact hq
    · exact absurd hz (d.2 k h)
  exact W.mono hm (show W n t s (q.2 + 1) x from .inr ⟨z, d.1, st⟩)
theorem Round.next {n : Nat} {t : List Nat} {s k : Nat} {kvs : List (Nat × Nat)} {la : List Nat} (R : Round n t s k kvs la) :
    Round n t s (k + 1) (kvs ++ (grow (kvs.map (·.1)) [] (la.flatMap (beh n t))).map (fun y => (y, k + 1))) (grow (kvs.map (·.1)) [] (la.flatMap (beh n t))) where
  keys := fun x => by
    rw [List.map_append, List.map_map, List.mem_append]
    have e : (grow (kvs.map (·.1)) [] (la.flatMap (beh n t))).map ((fun q : Nat × Nat => q.1) ∘ fun y => (y, k + 1)) = grow (kvs.map (·.1)) [] (la.flatMap (beh n t)) := List.map_id' _
    rw [e, mem_grow, R.keys x, List.mem_flatMap]
    constructor
    · rintro (h | h | ⟨⟨z, hz, hy⟩, _⟩)
      · exact .inl h
      · cases h
      · refine .inr ⟨z, ?_, mem_beh.mp hy⟩
        refine (R.keys z).mp (List.mem_map.mpr ⟨(z, k), (R.late z).mp hz, rfl⟩)
    · rintro (h | ⟨z, hz, st⟩)
      · exact .inl h
      · by_cases c : z ∈ la
        · by_cases c2 : W n t s k x
          · exact .inl c2
          · exact .inr (.inr ⟨⟨z, c, mem_beh.mpr st⟩, c2⟩)
        · exact .inl (R.old hz c st)
  dist := fun q hq => by
    rcases List.mem_append.mp hq with h | h
    · exact R.dist q h
    · obtain ⟨y, hy, rfl⟩ := List.mem_map.mp h
      rcases mem_grow.mp hy with h | ⟨h, hn⟩
      · cases h
      · obtain ⟨z, hz, hb⟩ := List.mem_flatMap.mp h
        refine ⟨.inr ⟨z, (R.keys z).mp (List.mem_map.mpr ⟨(z, k), (R.late z).mp hz, rfl⟩), mem_beh.mp hb⟩, fun i hi w => hn ((R.keys y).mpr (W.mono (Nat.le_of_lt_succ hi) w))⟩
  late := fun x => by
    rw [List.mem_append]
    constructor
    · intro h
      exact .inr (List.mem_map.mpr ⟨x, h, rfl⟩)
    · rintro (h | h)
      · have d := R.dist _ h
        have w := (R.keys x).mp (List.mem_map.mpr ⟨_, h, rfl⟩)
        exact absurd w (d.2 k (Nat.lt_succ_self k))
      · obtain ⟨y, hy, e⟩ := List.mem_map.mp h
        rw [← (Prod.mk.inj e).1]
        exact hy
  nd := by
    rw [List.map_append, List.map_map]
    have e : (grow (kvs.map (·.1)) [] (la.flatMap (beh n t))).map ((fun q : Nat × Nat => q.1) ∘ fun y => (y, k + 1)) = grow (kvs.map (·.1)) [] (la.flatMap (beh n t)) := List.map_id' _
    rw [e]
    refine grow_nodup ?_
    rw [List.append_nil]
    exact R.nd
/-- no latest: all that is come to is there -/
theorem Round.done {n : Nat} {t : List Nat} {s k : Nat} {kvs : List (Nat × Nat)} (R : Round n t s k kvs []) (x : Nat) : x ∈ kvs.map (·.1) ↔ Come n t s x := by
  rw [R.keys x]
  refine ⟨fun w => ⟨k, w⟩, fun ⟨m, w⟩ => ?_⟩
  refine Closed.all (k := k) ?_ w
  rintro y (h | ⟨z, hz, st⟩)
  · exact h
  · exact R.old hz (by simp) st
theorem Round.few {n : Nat} {t : List Nat} {s k : Nat} {kvs : List (Nat × Nat)} {la : List Nat} (R : Round n t s k kvs la) (hs : s < 2 ^ n) : kvs.length ≤ 2 ^ n := by
  have := nodup_few R.nd fun x hx => W.lt hs ((R.keys x).mp hx)
  rw [List.length_map] at this
  exact this
/-- the rising list of what is come to -/
theorem reach_sorted {n : Nat} {t : List Nat} {s : Nat} (hs : s < 2 ^ n) {l : List Nat} (h : l.Pairwise (· < ·)) (k : ∀ x, x ∈ l ↔ Come n t s x) : l = Kzk4.reach n t s :=
  rising_ext h (reach_rising n t s) fun x => by rw [k, mem_reach hs]
theorem far_dist {n : Nat} {t : List Nat} {s x m : Nat} (hs : s < 2 ^ n) (d : Dist n t s x m) : Kzk4.far n t s x = some m := far_some hs d.1 d.2
/-- a rising list of whole numbers that has just the states that are come to -/
theorem sorted_is {n : Nat} {t : List Nat} {s : Nat} (hs : s < 2 ^ n) {ks : List Nat} {ys : List Int} (p : ys.Perm (ks.map fun x : Nat => (x : Int))) (r : ys.Pairwise (· ≤ ·)) (nd : ks.Nodup) (hm : ∀ x, x ∈ ks ↔ Come n t s x) : ys = asI (Kzk4.reach n t s) := by
  have pos : ∀ y ∈ ys, 0 ≤ y := fun y hy => by
    obtain ⟨x, _, e⟩ := List.mem_map.mp (p.mem_iff.mp hy)
    rw [← e]
    exact Int.natCast_nonneg x
  have ndI : (ks.map fun x : Nat => (x : Int)).Nodup := by
    refine List.pairwise_map.mpr (List.Pairwise.imp (fun {a b} h e => h ?_) nd)
    omega
  have ndY : ys.Nodup := p.nodup_iff.mpr ndI
  have lt : (ys.map Int.toNat).Pairwise (· < ·) := by
    refine List.pairwise_map.mpr ?_
    refine List.Pairwise.imp_of_mem (fun {a b} ha hb h => ?_) (List.Pairwise.and r ndY)
    have h1 := pos a ha
    have h2 := h.1
    have h3 : a ≠ b := h.2
    omega
  have e := reach_sorted (t := t) hs lt fun x => by
    rw [← hm, List.mem_map]
    constructor
    · rintro ⟨y, hy, rfl⟩
      obtain ⟨x, hx, e⟩ := List.mem_map.mp (p.mem_iff.mp hy)
      rw [← e]
      exact hx
    · intro hx
      exact ⟨(x : Int), p.mem_iff.mpr (List.mem_map.mpr ⟨x, hx, rfl⟩), rfl⟩
  rw [← e]
  unfold asI
  rw [List.map_map]
  have : ys.map id = ys := List.map_id ys
  refine this.symm.trans (List.map_congr_left fun y hy => ?_)
  show y = ((y.toNat : Nat) : Int)
  rw [Int.toNat_of_nonneg (pos y hy)]
end Tw
namespace Tw
/-! ### traps and rest, as the program asks for them -/
theorem reach_lt {n : Nat} {t : List Nat} {s x : Nat} (hs : s < 2 ^ n) (h : x ∈ Kzk4.reach n t s) : x < 2 ^ n := ((mem_reach hs).mp h).lt hs
theorem reach_self {n : Nat} {t : List Nat} {s : Nat} (hs : s < 2 ^ n) : s ∈ Kzk4.reach n t s := (mem_reach hs).mpr Come.refl
theorem reach_len {n : Nat} {t : List Nat} {s : Nat} (hs : s < 2 ^ n) : (Kzk4.reach n t s).length ≤ 2 ^ n := by
  have nd : (Kzk4.reach n t s).Nodup := List.Pairwise.imp (R := (· < ·)) (S := (· ≠ ·)) (fun h => Nat.ne_of_lt h) (reach_rising n t s)
  exact nodup_few nd fun _ hx => reach_lt hs hx
/-- the first of what is come to -/
def least (n : Nat) (t : List Nat) (s : Nat) : Nat := (Kzk4.reach n t s).headD 0
theorem least_at {n : Nat} {t : List Nat} {s : Nat} (hs : s < 2 ^ n) : (Kzk4.reach n t s)[0]? = some (least n t s) := by
  have h := reach_self (t := t) hs
  unfold least
  cases e : Kzk4.reach n t s with
  | nil =>
    rw [e] at h
    cases h
  | cons a l => rfl
theorem least_test {n : Nat} {t : List Nat} {s : Nat} (hs : s < 2 ^ n) : decide (s = least n t s) = (Kzk4.reach n t s).all fun x => decide (s ≤ x) := by
  have h := reach_self (t := t) hs
  have r := reach_rising n t s
  unfold least
  generalize Kzk4.reach n t s = l at h r
  cases l with
  | nil => cases h
  | cons a l =>
    rw [List.pairwise_cons] at r
    show decide (s = a) = _
    rw [Bool.eq_iff_iff, decide_eq_true_eq, List.all_eq_true]
    constructor
    · intro e x hx
      rw [decide_eq_true_eq]
      rcases List.mem_cons.mp hx with z | z
      · omega
      · have := r.1 x z
        omega
    · intro q
      have q1 := of_decide_eq_true (q a List.mem_cons_self)
      rcases List.mem_cons.mp h with z | z
      · exact z
      · have := r.1 s z
        omega
/-- whether s is the least of a trap -/
def lead (n : Nat) (t : List Nat) (s : Nat) : Bool := Kzk4.inTrap n t s && (Kzk4.reach n t s).all fun x => decide (s ≤ x)
theorem lead_no {n : Nat} {t : List Nat} {s : Nat} (hs : s < 2 ^ n) (h : ¬ s = least n t s) : lead n t s = false := by
  unfold lead
  rw [← least_test hs, decide_eq_false h, Bool.and_false]
theorem lead_is {n : Nat} {t : List Nat} {s : Nat} (hs : s < 2 ^ n) (h : s = least n t s) : lead n t s = ((Kzk4.reach n t s).map fun x => (Kzk4.reach n t x).contains s).all id := by
  unfold lead
  rw [← least_test hs, decide_eq_true h, Bool.and_true, List.all_map]
  rfl
/-- what is found behind the first i states -/
def found (n : Nat) (t : List Nat) (i : Nat) : List Nat := ((List.range i).filter (lead n t)).flatMap fun s => [s, (Kzk4.reach n t s).length]
theorem found_yes {n : Nat} {t : List Nat} {i : Nat} (h : lead n t i = true) : found n t (i + 1) = found n t i ++ [i, (Kzk4.reach n t i).length] := by
  unfold found
  rw [List.range_succ, List.filter_append, List.flatMap_append]
  simp [h]
theorem found_no {n : Nat} {t : List Nat} {i : Nat} (h : lead n t i = false) : found n t (i + 1) = found n t i := by
  unfold found
  rw [List.range_succ, List.filter_append, List.flatMap_append]
  simp [h]
theorem two_each {α β : Type} (f g : α → β) : ∀ l : List α, (l.flatMap fun x => [f x, g x]).length = 2 * l.length
  | [] => rfl
  | a :: l => by
    rw [List.flatMap_cons, List.length_append, two_each f g l, List.length_cons (a := a)]
    show 2 + 2 * l.length = 2 * (l.length + 1)
    omega
theorem found_len (n : Nat) (t : List Nat) (i : Nat) : (found n t i).length = 2 * ((List.range i).filter (lead n t)).length := two_each _ _ _
theorem found_few (n : Nat) (t : List Nat) (i : Nat) : (found n t i).length ≤ 2 * i := by
  rw [found_len]
  have := List.length_filter_le (lead n t) (List.range i)
  rw [List.length_range] at this
  omega
theorem traps_is (n : Nat) (t : List Nat) : Kzk4.traps n t = (List.range (2 ^ n)).filter (lead n t) := rfl
theorem trapsA_is {n : Nat} {t : List Nat} (h : Kzk1.okTowers n t = true) : trapsA n t = asI ((found n t (2 ^ n)).length / 2 :: found n t (2 ^ n)) := by
  unfold trapsA
  rw [if_pos h, found_len, Nat.mul_div_cancel_left _ (by decide : 0 < 2)]
  rfl
/-- no change leads out of x -/
def stays (n : Nat) (t : List Nat) (x : Nat) : Bool := decide ((beh n t x).length = 0)
theorem stays_is {n : Nat} {t : List Nat} {x : Nat} (hx : x < 2 ^ n) : stays n t x = (Kzk1.next n t x == x) := by
  unfold stays
  rw [Bool.eq_iff_iff, decide_eq_true_eq, beq_iff_eq, next_rest hx]
  unfold beh Rest
  rw [List.length_map, List.length_eq_zero_iff, List.filter_eq_nil_iff]
  constructor
  · intro h j hj
    exact Bool.eq_false_iff.mpr (h j (List.mem_range.mpr hj))
  · intro h j hj
    exact Bool.eq_false_iff.mp (h j (List.mem_range.mp hj))
theorem any_congr {α : Type} {p q : α → Bool} : ∀ {l : List α}, (∀ x ∈ l, p x = q x) → l.any p = l.any q
  | [], _ => rfl
  | a :: l, h => by
    rw [List.any_cons, List.any_cons, h a List.mem_cons_self, any_congr fun x hx => h x (List.mem_cons_of_mem _ hx)]
theorem may_any {n : Nat} {t : List Nat} {s : Nat} (hs : s < 2 ^ n) : ((Kzk4.reach n t s).map (stays n t)).any id = Kzk4.mayRest n t s := by
  unfold Kzk4.mayRest
  rw [List.any_map]
  exact any_congr fun x hx => stays_is (reach_lt hs hx)
theorem surely_all (n : Nat) (t : List Nat) (s : Nat) : ((Kzk4.reach n t s).map (Kzk4.mayRest n t)).all id = Kzk4.surely n t s := by
  unfold Kzk4.surely
  rw [List.all_map]
  rfl
end Tw
/-! ### the layer's words in short: a def by its name -/
namespace Tw
open PySem PySem.Spec PyProof.Rows L2
/-- a number that is not below 0 -/
def nv (x : Nat) : V := .int (x : Int)
/-- what stands under the name x keeps the promise sp -/
def Has (P : Program) (w : World) (K : PySem.W.Frag) (mg : Str → Option Value) (base : Heap) (k : Nat) (x : Str) (ps : List Str) (sp : Sp) : Prop :=
  ∃ (f : Addr) (fd : FuncData), mg x = some (.ref f) ∧ PySem.W.keepIn K (.ref f) = true ∧ Binds K fd ps [] ∧ FnOk P w K mg base CX0 k f fd ps sp
section
variable {P : Program} {w : World} {K : PySem.W.Frag} {mg : Str → Option Value} {base : Heap}
theorem Has.of {x qual : Str} {st : Stmt} {ps : List Str} {k : Nat} {sp : Sp} {f : Addr} {fd : FuncData} (F : Fun K x qual st f fd) (m : mg x = some (.ref f)) (b : Binds K fd ps []) (G : FnOk P w K mg base CX0 k f fd ps sp) : Has P w K mg base k x ps sp :=
  ⟨f, fd, m, F.kp, b, G⟩
/-- x(e, ..), x a def of the text -/
theorem pe_callH {X : Cx} {k k2 : Nat} {x : Str} {ps : List Str} {sp : Sp} {p pos : Pos} {e : Expr} {es : List Expr} {t : TA} (G : Has X.prog X.w X.K X.mg X.base k x ps sp) (hr : Room k2 X.A) (ha : PA X (e :: es) t) (hg : Gl X x := by rfl) (hk : k ≤ k2 := by decide)
    (hdb : (x == ("__debug__" : Str)) = false := by decide) (he : starEach (e :: es) X.env = (false, eval e X.env) :: starEach es X.env := by rfl) (hpl : (backTo pos (starEach es X.env)).any (·.1) = false := by rfl) :
    PE X (.Call (.Name x p) (e :: es) [] pos) (tCall sp [] E0 t) := by
  obtain ⟨f, fd, m, kp, b, F⟩ := G
  exact pe_call F (hr.mono hk) hg m kp b .nil pass0 ha hdb he hpl
end
/-! ### lists and heaps -/
theorem take_more {α : Type} : ∀ {l : List α} {i : Nat} {x : α}, l[i]? = some x → l.take (i + 1) = l.take i ++ [x]
  | [], i, x, h => by simp at h
  | a :: l, 0, x, h => by
    have e : a = x := Option.some.inj h
    subst e
    rfl
  | a :: l, i + 1, x, h => congrArg (a :: ·) (take_more (l := l) (i := i) (x := x) h)
theorem map_at {α : Type} {f : α → V} {l : List α} {i : Nat} {y : V} (h : (l.map f)[i]? = some y) : ∃ z, l[i]? = some z ∧ y = f z := by
  rw [List.getElem?_map] at h
  cases e : l[i]? with
  | none =>
    rw [e] at h
    cases h
  | some z =>
    rw [e] at h
    exact ⟨z, rfl, (Option.some.inj h).symm⟩
theorem Same.put {H H' : Hp} {D : Addr} {o : HO} (s : Same H H') (n : H D = Option.none) : Same H (upd H' D o) := fun b u e => by
  rw [upd_ne (ne_of_none e n)]
  exact s b u e
theorem nv_ints {l : List Int} (h : ∀ x ∈ l, 0 ≤ x) : l.map V.int = (l.map Int.toNat).map nv := by
  rw [List.map_map]
  refine List.map_congr_left fun x hx => ?_
  show V.int x = V.int ((x.toNat : Nat) : Int)
  rw [Int.toNat_of_nonneg (h x hx)]
theorem cast_pow (e : Nat) : ((2 ^ e : Nat) : Int) = (2 : Int) ^ e := by
  rw [Int.natCast_pow]
  rfl
theorem dec_lt (a b : Nat) : decide ((a : Int) < (b : Int)) = decide (a < b) := decide_eq_decide.mpr Int.ofNat_lt
theorem dec_nv (a b : Nat) : decide (nv a = nv b) = decide (a = b) := decide_eq_decide.mpr ⟨fun z => Int.ofNat.inj (V.int.inj z), fun z => by rw [z]⟩
end Tw
namespace Tw
open PySem PySem.Spec PyProof.Rows L2
/-! ### the text by places -/
def top (i : Nat) : Stmt := PySem.Challenge.pw_towerchanges_s04_traps.main.body.getD i (.Pass ⟨0, 0, 0, 0⟩)
abbrev sPow : Stmt := top 3
abbrev NPow : List Str := ["exponent", "power", "step"]
abbrev PPow : List Str := ["exponent"]
theorem scPow : FnScope NPow PPow (defScope sPow) := ⟨rfl, rfl, rfl, by decide +kernel, rfl, by decide +kernel, by decide +kernel⟩
abbrev sBit : Stmt := top 4
abbrev NBit : List Str := ["number", "place"]
abbrev PBit : List Str := ["number", "place"]
theorem scBit : FnScope NBit PBit (defScope sBit) := ⟨rfl, rfl, rfl, by decide +kernel, rfl, by decide +kernel, by decide +kernel⟩
abbrev sFit : Stmt := top 5
abbrev NFit : List Str := ["n", "t", "states", "too_great", "rule"]
abbrev PFit : List Str := ["n", "t"]
theorem scFit : FnScope NFit PFit (defScope sFit) := ⟨rfl, rfl, rfl, by decide +kernel, rfl, by decide +kernel, by decide +kernel⟩
abbrev sChg : Stmt := top 6
abbrev NChg : List Str := ["s", "t", "j"]
abbrev PChg : List Str := ["s", "t", "j"]
theorem scChg : FnScope NChg PChg (defScope sChg) := ⟨rfl, rfl, rfl, by decide +kernel, rfl, by decide +kernel, by decide +kernel⟩
abbrev sBeh : Stmt := top 7
abbrev NBeh : List Str := ["n", "s", "t", "j"]
abbrev PBeh : List Str := ["n", "s", "t"]
theorem scBeh : FnScope NBeh PBeh (defScope sBeh) := ⟨rfl, rfl, rfl, by decide +kernel, rfl, by decide +kernel, by decide +kernel⟩
abbrev sFew : Stmt := top 8
abbrev NFew : List Str := ["n", "s", "t", "fewest", "latest", "further", "state", "other"]
abbrev PFew : List Str := ["n", "s", "t"]
theorem scFew : FnScope NFew PFew (defScope sFew) := ⟨rfl, rfl, rfl, by decide +kernel, rfl, by decide +kernel, by decide +kernel⟩
abbrev sCom : Stmt := top 9
abbrev NCom : List Str := ["n", "s", "t"]
abbrev PCom : List Str := ["n", "s", "t"]
theorem scCom : FnScope NCom PCom (defScope sCom) := ⟨rfl, rfl, rfl, by decide +kernel, rfl, by decide +kernel, by decide +kernel⟩
abbrev sTra : Stmt := top 10
abbrev NTra : List Str := ["n", "t", "s", "reached", "found", "states", "x"]
abbrev PTra : List Str := ["n", "t"]
theorem scTra : FnScope NTra PTra (defScope sTra) := ⟨rfl, rfl, rfl, by decide +kernel, rfl, by decide +kernel, by decide +kernel⟩
/-- what the module's other names stand for -/
structure Txt (mg : Str → Option Value) : Prop where
  b_range : mg "range" = none
  b_len : mg "len" = none
  b_all : mg "all" = none
  b_sorted : mg "sorted" = none
  b_enumerate : mg "enumerate" = none
  c_MOST_TOWERS : ∃ tk, mg "MOST_TOWERS" = some (.int 4 tk)
  c_REFUSED : ∃ tk, mg "REFUSED" = some (.int (-22) tk)
end Tw
namespace Tw
open PySem PySem.Spec PyProof.Rows L2
/-! ### the promises -/
def spPow : Sp := fun vs H Q _ => ∃ e : Nat, vs = [nv e] ∧ e ≤ 16 ∧ Q (nv (2 ^ e)) H
def spBit : Sp := fun vs H Q _ => ∃ a p : Nat, vs = [nv a, nv p] ∧ Q (nv (bitN a p)) H
def spIsSt : Sp := fun vs H Q _ => ∃ n s : Nat, vs = [nv n, nv s] ∧ n ≤ 16 ∧ Q (.bl (decide (s < 2 ^ n))) H
def spFit (K : PySem.W.Frag) : Sp := fun vs H Q _ => ∃ (n : Nat) (a : Addr) (ts : List Nat), vs = [nv n, .ref a] ∧ SqL K H a (ts.map nv) ∧ ts.length ≤ 10 ∧ ∀ H' : Hp, Same H H' → Q (.bl (Kzk1.okTowers n ts)) H'
def spChg (K : PySem.W.Frag) : Sp := fun vs H Q _ => ∃ (s j : Nat) (a : Addr) (ts : List Nat), vs = [nv s, .ref a, nv j] ∧ SqL K H a (ts.map nv) ∧ j < ts.length ∧ Q (.bl (chg ts s j)) H
section
variable {P : Program} {w : World} {K : PySem.W.Frag} {mg : Str → Option Value} {base : Heap}
/-! ### power_of_two -/
theorem ok_pow {f : Addr} {fd : FuncData} (F : Fun K "power_of_two" "power_of_two" sPow f fd) (T : Txt mg) : FnOk P w K mg base CX0 1 f fd ["exponent"] spPow := by
  refine F.ok scPow (fun vs H Q E h => ?_) (fun cdv A outer s H vs Q E hr h => ?_)
  · obtain ⟨e, rfl, _⟩ := h
    rfl
  · obtain ⟨e, rfl, he, k⟩ := h
    refine ⟨_, pss_cons (ps_set (i := 1) scPow.nd rfl (Or.inl rfl) pe_int)
      (pss_cons (ps_for PassesOwn.never rfl (pi_range1 rfl T.b_range (pa_cons (pv 0) pa_nil)) (pg_name (i := 2) scPow.nd rfl (Or.inl rfl))
        (pss_one (ps_set (i := 1) scPow.nd rfl (Or.inl rfl) (pe_op op_mul (pv 1) pe_int))))
      (pss_one (ps_ret (pv 1)))), ?_⟩
    refine ⟨_, rfl, (e : Int), rfl, by omega, by omega, for_range (lo := 0) (n := e) (fun i σ H' => H' = H ∧ ∃ v : Option V, σ = [some (nv e), some (nv (2 ^ i)), v]) ⟨rfl, none, rfl⟩ ?_ ?_⟩
    · rintro i σ H' hi ⟨rfl, v, rfl⟩
      refine ⟨_, rfl, _, _, rfl, rfl, .inr ⟨by decide, by decide⟩, rfl, some (.int (0 + (i : Int))), ?_⟩
      have e2 : ((2 ^ i : Nat) : Int) * 2 = ((2 ^ (i + 1) : Nat) : Int) := by
        rw [Nat.pow_succ]
        omega
      show [some (nv e), some (V.int (((2 ^ i : Nat) : Int) * 2)), some (.int (0 + (i : Int)))] = _
      rw [e2]
      rfl
    · rintro σ H' ⟨rfl, v, rfl⟩
      exact ⟨_, rfl, k⟩
/-! ### bit -/
theorem ok_bit {f : Addr} {fd : FuncData} (F : Fun K "bit" "bit" sBit f fd) : FnOk P w K mg base CX0 1 f fd ["number", "place"] spBit := by
  refine F.ok scBit (fun vs H Q E h => ?_) (fun cdv A outer s H vs Q E hr h => ?_)
  · obtain ⟨a, p, rfl, _⟩ := h
    rfl
  · obtain ⟨a, p, rfl, k⟩ := h
    refine ⟨_, pss_one (ps_ret (pe_op op_odd (pe_op op_shrN (pv 0) (pv 1)) pe_int)), ?_⟩
    refine ⟨_, rfl, _, rfl, (a : Int), p, rfl, rfl, a / 2 ^ p, ?_, rfl, k⟩
    show V.int ((a : Int) / 2 ^ p) = V.int ((a / 2 ^ p : Nat) : Int)
    rw [Int.natCast_ediv, cast_pow]
/-! ### rules_fit -/
theorem fit_no {n : Nat} {ts : List Nat} (h : n < 1 ∨ 4 < n ∨ ts.length ≠ n) : Kzk1.okTowers n ts = false := by
  unfold Kzk1.okTowers
  rcases h with h | h | h
  · rw [decide_eq_false (by omega : ¬ 1 ≤ n)]
    rfl
  · rw [decide_eq_false (by omega : ¬ n ≤ 4)]
    simp
  · rw [beq_false_of_ne h]
    simp
theorem fit_yes {n : Nat} {ts : List Nat} (h1 : ¬ n < 1) (h2 : ¬ 4 < n) (h3 : ts.length = n) : Kzk1.okTowers n ts = (ts.map fun r => decide (r < 2 ^ 2 ^ n)).all id := by
  unfold Kzk1.okTowers
  rw [decide_eq_true (by omega : 1 ≤ n), decide_eq_true (by omega : n ≤ 4), h3, List.all_map]
  simp
theorem fit_facts {n : Nat} {ts : List Nat} (hf : Kzk1.okTowers n ts = true) : 1 ≤ n ∧ n ≤ 4 ∧ ts.length = n := by
  unfold Kzk1.okTowers at hf
  simp only [Bool.and_eq_true, decide_eq_true_eq, beq_iff_eq] at hf
  exact ⟨hf.1.1.1, hf.1.1.2, hf.1.2⟩
theorem good_of {n s : Nat} {ts : List Nat} : Kzk1.good n s ts = (Kzk1.okTowers n ts && decide (s < 2 ^ n)) := rfl
theorem ok_fit {f : Addr} {fd : FuncData} (F : Fun K "rules_fit" "rules_fit" sFit f fd) (T : Txt mg) (HP : Has P w K mg base 1 "power_of_two" ["exponent"] spPow) :
    FnOk P w K mg base CX0 2 f fd ["n", "t"] (spFit K) := by
  obtain ⟨tkM, mgM⟩ := T.c_MOST_TOWERS
  refine F.ok scFit (fun vs H Q E h => ?_) (fun cdv A outer s H vs Q E hr h => ?_)
  · obtain ⟨n, a, ts, rfl, _⟩ := h
    rfl
  · obtain ⟨n, a, ts, rfl, hS, hlen, k⟩ := h
    refine ⟨_, pss_cons (ps_if (PW.pt (pw_or (pt_cmpR op_lt (pv 0) pe_int (nomark _)) (pw_or (pt_cmpR op_gt (pv 0) (pe_glob (v := .int 4) rfl mgM ⟨_, rfl⟩) (nomark _)) (pw_or1 (pt_cmpR op_ne (pe_callB call_len_seq (by rfl) T.b_len PySem.boot_len (pa_cons (pv 1) pa_nil)) (pv 0) (nomark _))))))
        (pss_one (ps_ret pe_bl)) pss_nil)
      (pss_cons (ps_set (i := 2) scFit.nd rfl (Or.inl rfl) (pe_callH HP hr (pa_cons (pv 0) pa_nil)))
      (pss_cons (ps_set (i := 3) scFit.nd rfl (Or.inr rfl) (pe_callH HP hr (pa_cons (pv 2) pa_nil)))
      (pss_one (ps_ret (pe_callB (cr_all rfl) (by rfl) T.b_all (by decide +kernel) (pa_cons (pe_lc (own := [("rule", 4)]) (g := gName 4) (tt := tYes) rfl scFit.nd (pi_list (pv 1)) (blkOk_by (N := NFit) (sc := defScope sFit) (by decide +kernel))
        (fun _ _ _ _ _ => pg_name (i := 4) scFit.nd rfl (Or.inl rfl)) (fun _ _ _ _ _ => pts_nil) (fun _ _ _ _ _ => pe_cmpR op_lt (pv 4) (pv 3) (nomark _))) pa_nil)))))), ?_⟩
    refine ⟨_, rfl, _, _, rfl, rfl, _, rfl, ite2 (fun c1 => iteT ?_) (fun c1 => ?_)⟩
    · have c : (n : Int) < 1 := of_decide_eq_true c1
      have e := k H (Same.refl H)
      rw [fit_no (.inl (by omega))] at e
      exact e
    refine ⟨_, rfl, _, _, rfl, rfl, _, rfl, ite2 (fun c2 => iteT ?_) (fun c2 => ?_)⟩
    · have c : (4 : Int) < n := of_decide_eq_true c2
      have e := k H (Same.refl H)
      rw [fit_no (.inr (.inl (by omega)))] at e
      exact e
    refine ⟨_, rfl, a, _, rfl, .inl hS, _, rfl, rfl, _, rfl, ?_⟩
    have d1 : ¬ n < 1 := fun z => c1 (decide_eq_true (by omega))
    have d2 : ¬ 4 < n := fun z => c2 (decide_eq_true (by omega))
    rw [List.length_map]
    by_cases c3 : ts.length = n
    · refine iteNS (show V.int ((ts.length : Nat) : Int) = nv n by rw [c3]; rfl) ?_
      refine ⟨_, rfl, n, rfl, by omega, _, rfl, 2 ^ n, rfl, ?_, ?_⟩
      · have : 2 ^ n ≤ 2 ^ 4 := Nat.pow_le_pow_right (by decide) (by omega)
        exact this
      refine ⟨_, rfl, a, rfl, ⟨_, hS⟩, fun D hD => lc_list (K := K) (a := a) (xs := ts.map nv) (fun i H' => Same H H' ∧ H' D = some (.lst (((ts.take i).map fun r => decide (r < 2 ^ 2 ^ n)).map V.bl)))
        ⟨Same.put (Same.refl H) hD, upd_same⟩ (fun i H' _ ⟨q, _⟩ => q.seq hS) ?_ ?_⟩
      · rintro i x H' hx ⟨q, qD⟩
        obtain ⟨z, hz, rfl⟩ := map_at hx
        refine ⟨rfl, _, rfl, _, rfl, _, _, rfl, rfl, _, qD, ?_, Same.put q hD, ?_⟩
        · rw [List.length_map, List.length_map, List.length_take]
          exact small1000 (by omega)
        · have e : decide ((z : Int) < ((2 ^ 2 ^ n : Nat) : Int)) = decide (z < 2 ^ 2 ^ n) := decide_eq_decide.mpr Int.ofNat_lt
          rw [upd_same, take_more hz, List.map_append, List.map_append]
          show some (HO.lst (_ ++ [V.bl (decide ((z : Int) < ((2 ^ 2 ^ n : Nat) : Int)))])) = _
          rw [e]
          rfl
      · rintro H' ⟨q, qD⟩
        rw [List.length_map, List.take_length] at qD
        refine ⟨D, _, rfl, SqL.of qD, ?_⟩
        have e := k H' q
        rw [fit_yes d1 d2 c3] at e
        exact e
    · have e : (!decide (V.int ((ts.length : Nat) : Int) = nv n)) = true := by
        rw [decide_eq_false]
        · rfl
        · intro z
          have z2 : ((ts.length : Nat) : Int) = (n : Int) := V.int.inj z
          omega
      show if (!decide (V.int ((ts.length : Nat) : Int) = nv n)) = true then _ else _
      rw [e]
      refine iteT ?_
      have e := k H (Same.refl H)
      rw [fit_no (.inr (.inr c3))] at e
      exact e
/-! ### would_change -/
theorem ok_chg {f : Addr} {fd : FuncData} (F : Fun K "would_change" "would_change" sChg f fd) (HB : Has P w K mg base 1 "bit" ["number", "place"] spBit) :
    FnOk P w K mg base CX0 2 f fd ["s", "t", "j"] (spChg K) := by
  refine F.ok scChg (fun vs H Q E h => ?_) (fun cdv A outer s H vs Q E hr h => ?_)
  · obtain ⟨s, j, a, ts, rfl, _⟩ := h
    rfl
  · obtain ⟨s, j, a, ts, rfl, hS, hj, k⟩ := h
    refine ⟨_, pss_one (ps_ret (pe_cmpR op_ne (pe_callH HB hr (pa_cons (pe_ix ix_list (pv 1) (pv 2) (fun _ _ => rfl)) (pa_cons (pv 0) pa_nil)))
      (pe_callH HB hr (pa_cons (pv 0) (pa_cons (pv 2) pa_nil))) (nomark _))), ?_⟩
    have hat : (ts.map nv)[j]? = some (nv (ts.getD j 0)) := by
      rw [List.getElem?_map, List.getElem?_eq_getElem hj, List.getD_eq_getElem?_getD, List.getElem?_eq_getElem hj]
      rfl
    refine ⟨_, rfl, _, rfl, a, _, _, _, rfl, rfl, hS, atI_nat hat, _, rfl, ts.getD j 0, s, rfl, _, rfl, _, rfl, s, j, rfl, rfl, ?_⟩
    have e : (!decide (nv (bitN (ts.getD j 0) s) = nv (bitN s j))) = chg ts s j := by
      unfold chg
      rw [decide_not]
      congr 1
      refine decide_eq_decide.mpr ⟨fun z => ?_, fun z => by rw [z]⟩
      have z2 : ((bitN (ts.getD j 0) s : Nat) : Int) = ((bitN s j : Nat) : Int) := V.int.inj z
      omega
    rw [e]
    exact k
end
end Tw
namespace Tw
open PySem PySem.Spec PyProof.Rows L2
/-! ### d.keys(), and sorted of it -/
/-- the view d.keys() at p -/
def keysO (p d : Addr) : HO := .ext fun h => PySem.W.KdlKeysView h p d
theorem keysO_ok {P : Program} {w : World} {H : Hp} {h : Heap} {p d : Addr} (e : PySem.W.KdlKeysView h p d) : ObjOk P w H h p (keysO p d) :=
  ⟨e, let ⟨o, ho, _⟩ := e; ⟨o, ho⟩, fun h1 h2 x k => let ⟨o, ho, r⟩ := x; ⟨o, k o ho, r⟩⟩
section
variable {X : Cx}
def rKeys : V → List V → Hp → VK → Prop := fun x xs H Q => ∃ (a : Addr) (kvs : List (L2.Key × V)), x = .ref a ∧ xs = [] ∧ H a = some (.dK kvs) ∧ ∀ p, H p = none → Q (.ref p) (upd H p (keysO p a))
theorem mt_keys : MtR X "dict.keys" rKeys := by
  intro pins s σ H x xs v us Q I rx rxs h
  obtain ⟨a, kvs, rfl, rfl, ha, q⟩ := h
  cases rx
  cases rxs
  obtain ⟨z, hd, vs, rel, dd⟩ := dk_of I.hok ha
  have hf : H s.heap.objs.size = none := I.hok.fresh (Nat.le_refl _)
  exact call_meetsIn PySem.F.slot_dict_keys dd.typeIs PySem.F.entry_dict_keys (PySem.F.args_dict_keys_1 _) (PySem.W.kdl_meets_keys (mixKind X.prog X.w) a hd)
    ⟨⟨vs, dd⟩, ⟨.ref s.heap.objs.size, upd H s.heap.objs.size (keysO s.heap.objs.size a), I.laid (t' := s.toks) (fun b u e => Heap.get?_push_of_some _ e) (Nat.le_refl _) (keysO_ok ⟨_, Heap.get?_push_size _ rfl, rfl, rfl⟩), rfl, q _ hf⟩⟩
/-- sorted(p), p the keys of the dict at a, all whole numbers -/
def rSortedKeys : List V → Hp → VK → Prop := fun xs H Q => ∃ (p a : Addr) (kvs : List (L2.Key × V)) (ks : List Int), xs = [.ref p] ∧ H p = some (keysO p a) ∧ H a = some (.dK kvs) ∧ kvs.map (·.1) = ks.map Sum.inl ∧ ks.length < 64 ∧
    ∀ (ys : List Int) (q : Addr), ys.Perm ks → ys.Pairwise (· ≤ ·) → H q = none → Q (.ref q) (upd H q (.lst (ys.map V.int)))
theorem cr_sortedKeys (hcalm : X.calm = true) : CallR X (.builtin "sorted") rSortedKeys := by
  intro pins s σ H xs us Q I r q
  obtain ⟨p, a, kvs, ks, ex, hp, ha, hks, h64, q⟩ := q
  subst ex
  obtain ⟨u, eu, rx⟩ := vals1 r
  subst eu
  cases rx
  have hv : PySem.W.KdlKeysView s.heap p a := (show ObjOk X.prog X.w H s.heap p (keysO p a) from I.hok p _ hp).1
  obtain ⟨z, lo, vs, rel, dd⟩ := dk_of I.hok ha
  obtain ⟨ep, hat⟩ := dd.dictAt
  have hkeys : vs.map (·.1) = ks.map Sum.inl := rel.keys.symm.trans hks
  have hl : vs.length = ks.length := by
    have e := congrArg List.length hkeys
    rw [List.length_map, List.length_map] at e
    exact e
  have h16 : vs.length ≤ sizeLine := by rw [hl, sizeLine_eq]; omega
  refine Calls.call_function_entry PyProof.Rows.kind_sorted PyProof.Rows.plain_sorted PyProof.Rows.entry_sorted (PyProof.Rows.args_sorted1 _) ?_
  unfold Builtin.«sorted»
  refine wpAny_bind (m := checkCount "sorted" 1 1 _) (wpAny_pure ?_)
  refine wpAny_bind (PySem.W.kdu_collect (A := X.A.in1) (PySem.W.kdl_keys (r := p) (d := a) (knd := mixKind X.prog X.w) (kvs := vs) (ep := ep)) (I.ok.hd hcalm) ⟨hv, hat⟩ h16 fun h' tk acc hk hacc => ?_)
  have hal : acc.toList.length = ks.length := by rw [Array.length_toList, hacc.1, hl]
  have hS : IntsAre acc.toList ks := ints_each hal fun j v e => by
    obtain ⟨k, x, e1, e2⟩ := hacc.2 j v (by rw [← Array.getElem?_toList]; exact e)
    have e3 : (vs.map (·.1))[j]? = some k := by rw [List.getElem?_map, e1]; rfl
    rw [hkeys, List.getElem?_map] at e3
    cases e4 : ks[j]? with
    | none => rw [e4] at e3; cases e3
    | some y =>
      rw [e4] at e3
      have e5 : Sum.inl y = k := Option.some.inj e3
      subst e5
      rcases keyIs_shape (show keyIs (Sum.inl y) v = true from e2) with ⟨i, t, ek, ev⟩ | ⟨z, t, ek, ev⟩
      · cases ek
        exact ⟨y, t, rfl, ev⟩
      · cases ek
  have I1 : Inv X pins σ H { s with heap := h', toks := tk } := I.kept hk
  refine wpAny_bind (wpAny_newList ?_ (by rw [hal, sizeLine_eq]; omega))
  have hoL : (h'.push (seqObj "list" acc.toList.toArray 0)).get? h'.objs.size = some (seqObj "list" acc.toList.toArray 0) := Heap.get?_push_size _ rfl
  show wpAny _ _ _ _ _ { s with heap := h'.push (seqObj "list" acc.toList.toArray 0), toks := tk }
  refine wpAny_bind (wpAny_holding (wpAny_call_entry PyProof.Rows.slot_list_sort ⟨_, hoL, rfl⟩ PyProof.Rows.entry_list_sort
    (PyProof.Rows.list_sort_tree (s := { s with heap := h'.push (seqObj "list" acc.toList.toArray 0), toks := tk }) hoL hS (by rw [hal]; exact h64) fun out ys g1 g2 g3 => ⟨_, rfl, ?_⟩) (PyProof.Rows.args_list_sort _)))
  obtain ⟨e', he'⟩ := PyProof.Rows.sortedHeap_at (vs := acc.toList) (out := out) hoL
  have hlen : (ys.map V.int).length ≤ sizeLine := by
    rw [List.length_map, g2.length_eq]
    exact Nat.le_trans (Nat.le_of_lt h64) (by decide)
  refine wpAny_pure ⟨_, rfl, .ref h'.objs.size, upd H h'.objs.size (.lst (ys.map V.int)), I1.laid (t' := tk) (fun b u e => ?_) (Nat.le_refl _)
    (show ObjOk X.prog X.w _ _ _ (.lst (ys.map V.int)) from ⟨hlen, out.toList, e', vals_of_ints g1, by rw [Array.toArray_toList]; exact he'⟩), rfl, q ys _ g2 g3 (I1.hok.fresh (Nat.le_refl _))⟩
  have hb : b < h'.objs.size := Heap.lt_size e
  rw [PyProof.Rows.sortedHeap_old (Nat.ne_of_lt hb) (by rw [size_push']; exact Nat.lt_succ_of_lt hb)]
  exact Heap.get?_push_of_some _ e
end
end Tw
namespace Tw
open PySem PySem.Spec PyProof.Rows L2
/-! ### dicts of states and numbers -/
def ent (q : Nat × Nat) : L2.Key × V := (Sum.inl (q.1 : Int), nv q.2)
theorem val_none {x : Nat} : ∀ {l : List (Nat × Nat)}, x ∉ l.map (·.1) → valV (l.map ent) (Sum.inl (x : Int)) = none
  | [], _ => rfl
  | q :: l, h => by
    rw [List.map_cons]
    rw [List.map_cons, List.mem_cons, not_or] at h
    refine (valV_neg (p := ent q) fun z => h.1 ?_).trans (val_none h.2)
    have z2 : ((q.1 : Nat) : Int) = (x : Int) := Sum.inl.inj z
    omega
theorem val_some {x k : Nat} : ∀ {l : List (Nat × Nat)}, (l.map (·.1)).Nodup → (x, k) ∈ l → valV (l.map ent) (Sum.inl (x : Int)) = some (nv k)
  | [], _, h => by cases h
  | q :: l, n, h => by
    rw [List.map_cons]
    rw [List.map_cons, List.nodup_cons] at n
    rcases List.mem_cons.mp h with e | h
    · rw [← e]
      exact valV_pos (p := ent (x, k)) rfl
    · refine (valV_neg (p := ent q) fun z => ?_).trans (val_some n.2 h)
      have z2 : ((q.1 : Nat) : Int) = (x : Int) := Sum.inl.inj z
      have z3 : q.1 = x := by omega
      refine n.1 ?_
      rw [z3]
      exact List.mem_map.mpr ⟨(x, k), h, rfl⟩
theorem val_there {x : Nat} {l : List (Nat × Nat)} (n : (l.map (·.1)).Nodup) (h : x ∈ l.map (·.1)) : ∃ k, (x, k) ∈ l ∧ valV (l.map ent) (Sum.inl (x : Int)) = some (nv k) := by
  obtain ⟨q, hq, e⟩ := List.mem_map.mp h
  obtain ⟨a, b⟩ := q
  have e : a = x := e
  subst e
  exact ⟨b, hq, val_some n hq⟩
/-! ### the promises -/
def spBeh (K : PySem.W.Frag) : Sp := fun vs H Q _ => ∃ (n s : Nat) (a : Addr) (ts : List Nat), vs = [nv n, nv s, .ref a] ∧ SqL K H a (ts.map nv) ∧ ts.length = n ∧ n ≤ 4 ∧
  ∀ (H' : Hp) (p : Addr), Same H H' → H p = none → H' p = some (.lst ((beh n ts s).map nv)) → Q (.ref p) H'
def spFew (K : PySem.W.Frag) : Sp := fun vs H Q _ => ∃ (n s : Nat) (a : Addr) (ts : List Nat), vs = [nv n, nv s, .ref a] ∧ SqL K H a (ts.map nv) ∧ ts.length = n ∧ n ≤ 4 ∧ s < 2 ^ n ∧
  ∀ (H' : Hp) (p : Addr) (kvs : List (Nat × Nat)), Same H H' → H p = none → H' p = some (.dK (kvs.map ent)) → (kvs.map (·.1)).Nodup → (∀ x, x ∈ kvs.map (·.1) ↔ Come n ts s x) → (∀ q ∈ kvs, Dist n ts s q.1 q.2) → kvs.length ≤ 16 → Q (.ref p) H'
section
variable {P : Program} {w : World} {K : PySem.W.Frag} {mg : Str → Option Value} {base : Heap}
theorem filter_range_next (p : Nat → Bool) (i : Nat) : (List.range (i + 1)).filter p = if p i = true then (List.range i).filter p ++ [i] else (List.range i).filter p := by
  rw [List.range_succ, List.filter_append]
  cases h : p i with
  | true => simp [h]
  | false => simp [h]
/-! ### behind_one_change -/
theorem ok_beh {f : Addr} {fd : FuncData} (F : Fun K "behind_one_change" "behind_one_change" sBeh f fd) (T : Txt mg)
    (HP : Has P w K mg base 1 "power_of_two" ["exponent"] spPow)
    (HC : Has P w K mg base 2 "would_change" ["s", "t", "j"] (spChg K)) :
    FnOk P w K mg base CX0 3 f fd ["n", "s", "t"] (spBeh K) := by
  refine F.ok scBeh (fun vs H Q E h => ?_) (fun cdv A outer s H vs Q E hr h => ?_)
  · obtain ⟨n, s, a, ts, rfl, _⟩ := h
    rfl
  · obtain ⟨n, s, a, ts, rfl, hS, hl, hn, k⟩ := h
    refine ⟨_, pss_one (ps_ret (pe_lc (own := [("j", 3)]) (g := gName 3) rfl scBeh.nd (pi_range1 rfl T.b_range (pa_cons (pv 0) pa_nil)) (blkOk_by (N := NBeh) (sc := defScope sBeh) (by decide +kernel))
        (fun _ _ _ _ _ => pg_name (i := 3) scBeh.nd rfl (Or.inl rfl)) (fun _ _ _ _ _ => pts_one (pt_val (pe_callH HC hr (pa_cons (pv 1) (pa_cons (pv 2) (pa_cons (pv 3) pa_nil))))))
        (fun _ _ _ _ _ => pe_op op_xor (pv 1) (pe_callH HP hr (pa_cons (pv 3) pa_nil))))), ?_⟩
    refine ⟨_, rfl, (n : Int), rfl, by omega, by omega, fun D hD => lc_range (lo := 0) (n := n) (fun i H' => Same H H' ∧ H' D = some (.lst ((((List.range i).filter (chg ts s)).map (flip s)).map nv))) ⟨Same.put (Same.refl H) hD, upd_same⟩ ?_ ?_⟩
    · rintro i H' hi ⟨q, qD⟩
      refine ⟨rfl, _, rfl, _, rfl, _, rfl, s, i, a, ts, ?_, q.seq hS, by omega, _, rfl, ?_⟩
      · show [nv s, V.ref a, V.int (0 + (i : Int))] = _
        rw [Int.zero_add]
        rfl
      · have fr := filter_range_next (chg ts s) i
        cases hc : chg ts s i with
        | true =>
          rw [hc, if_pos rfl] at fr
          refine iteT ⟨_, rfl, _, rfl, i, ?_, by omega, (s : Int), ((2 ^ i : Nat) : Int), rfl, rfl, _, qD, ?_, Same.put q hD, ?_⟩
          · show [V.int (0 + (i : Int))] = _
            rw [Int.zero_add]
            rfl
          · rw [List.length_map, List.length_map]
            exact small1000 (Nat.le_trans (List.length_filter_le _ _) (by rw [List.length_range]; omega))
          · rw [upd_same, fr, List.map_append, List.map_append]
            have e : Builtin.bitXor (s : Int) ((2 ^ i : Nat) : Int) = ((flip s i : Nat) : Int) := by
              rw [Bits.bitXor_pp (Int.natCast_nonneg _) (Int.natCast_nonneg _), Int.toNat_natCast, Int.toNat_natCast, flip_xor]
            show some (HO.lst (_ ++ [V.int (Builtin.bitXor (s : Int) ((2 ^ i : Nat) : Int))])) = _
            rw [e]
            rfl
        | false =>
          rw [hc, if_neg Bool.false_ne_true] at fr
          refine iteF ⟨q, ?_⟩
          rw [fr]
          exact qD
    · rintro H' ⟨q, qD⟩
      exact k H' D q hD qD
/-! ### fewest_changes -/
/-- the dict at d, the latest at l, the further ones at f, while a round goes on -/
structure Here (H H' : Hp) (d l f : Addr) (kvs : List (Nat × Nat)) (la g : List Nat) (k : Nat) : Prop where
  same : Same H H'
  dict : H' d = some (.dK ((kvs ++ g.map fun y => (y, k + 1)).map ent))
  late : H' l = some (.lst (la.map nv))
  furt : H' f = some (.lst (g.map nv))
theorem new_keys (kvs : List (Nat × Nat)) (g : List Nat) (k : Nat) : (kvs ++ g.map fun y => (y, k + 1)).map (·.1) = kvs.map (·.1) ++ g := by
  rw [List.map_append, List.map_map]
  have e : g.map ((fun q : Nat × Nat => q.1) ∘ fun y => (y, k + 1)) = g := List.map_id' _
  rw [e]
theorem ok_few {f : Addr} {fd : FuncData} (F : Fun K "fewest_changes" "fewest_changes" sFew f fd) (T : Txt mg)
    (HB : Has P w K mg base 3 "behind_one_change" ["n", "s", "t"] (spBeh K)) :
    FnOk P w K mg base CX0 4 f fd ["n", "s", "t"] (spFew K) := by
  refine F.ok scFew (fun vs H Q E h => ?_) (fun cdv A outer s H vs Q E hr h => ?_)
  · obtain ⟨n, s, a, ts, rfl, _⟩ := h
    rfl
  · obtain ⟨n, s, a, ts, rfl, hS, hl, hn, hs, k⟩ := h
    have h16 : 2 ^ n ≤ 16 := by
      have : 2 ^ n ≤ 2 ^ 4 := Nat.pow_le_pow_right (by decide) hn
      exact this
    refine ⟨_, pss_cons (ps_set (i := 3) scFew.nd rfl (Or.inl rfl) (pe_disp (pps_cons (pv 1) pe_int pps_nil) (by rfl) (by rfl) (fun z => by cases z) (by decide)))
      (pss_cons (ps_set (i := 4) scFew.nd rfl (Or.inl rfl) (pe_lst (pa_cons (pv 1) pa_nil)))
      (pss_cons (ps_while PassesOwn.never (pt_cmpR op_gt (pe_callB call_len_seq (by rfl) T.b_len PySem.boot_len (pa_cons (pv 4) pa_nil)) pe_int (nomark _))
        (pss_cons (ps_set (i := 5) scFew.nd rfl (Or.inl rfl) (pe_lst pa_nil))
        (pss_cons (ps_for PassesOwn.never rfl (pi_list (pv 4)) (pg_name (i := 6) scFew.nd rfl (Or.inl rfl))
          (pss_one (ps_for PassesOwn.never rfl (pi_list (pe_callH HB hr (pa_cons (pv 0) (pa_cons (pv 6) (pa_cons (pv 2) pa_nil))))) (pg_name (i := 7) scFew.nd rfl (Or.inl rfl))
            (pss_one (ps_if (pt_cmp (pc_dnotin (hu_of hr) (pv 7) (pv 3)))
              (pss_cons (ps_dput (hu_of hr) (pv 3) (pv 7) (pe_op op_add (pe_dget (hu_of hr) (pv 3) (pv 6) (fun _ _ => rfl)) pe_int) rfl)
              (pss_one (ps_expr (pe_bm PySem.F.plainAttrs_list PySem.F.slot_list_append PySem.F.type_list_append mt_append (pv 5) (pa_cons (pv 7) pa_nil)))))
              pss_nil)))))
        (pss_one (ps_set (i := 4) scFew.nd rfl (Or.inl rfl) (pv 5))))))
      (pss_one (ps_ret (pv 3))))), ?_⟩
    refine fun d hd => ⟨_, rfl, upd_same, [(Sum.inl (s : Int), V.int 0)], rfl, (by show 1 ≤ 15; decide), _, rfl, (by show 1 ≤ sizeLine; decide), fun l hl0 => ?_⟩
    have sd : Same H (upd (upd H d (.dK [])) d (.dK [(Sum.inl (s : Int), V.int 0)])) := Same.put (Same.put (Same.refl H) hd) hd
    have hlH : H l = none := sd.free hl0
    have ld : d ≠ l := ne_of_none (H := upd (upd H d (.dK [])) d (.dK [(Sum.inl (s : Int), V.int 0)])) upd_same hl0
    refine ⟨fun m σ H' => ∃ (r : Nat) (kvs : List (Nat × Nat)) (la : List Nat) (l : Addr) (v5 v6 v7 : Option V), σ = [some (nv n), some (nv s), some (.ref a), some (.ref d), some (.ref l), v5, v6, v7] ∧ m = 2 * (16 - kvs.length) + (if la = [] then 0 else 1) ∧
      Same H H' ∧ H' d = some (.dK (kvs.map ent)) ∧ H' l = some (.lst (la.map nv)) ∧ H l = none ∧ Round n ts s r kvs la, ⟨_, 0, [(s, 0)], [s], l, none, none, none, rfl, rfl, Same.put sd hlH, ?_, upd_same, hlH, Round.start n ts s⟩, ?_⟩
    · rw [upd_ne ld]
      exact upd_same
    rintro m σ H1 ⟨r, kvs, la, l, v5, v6, v7, rfl, rfl, s1, hd1, hl1, hl0, R⟩
    refine ⟨_, rfl, l, _, rfl, .inl (SqL.of hl1), _, _, rfl, rfl, _, rfl, ?_⟩
    by_cases c : la = []
    · subst c
      refine iteF ⟨_, rfl, k H1 d kvs s1 hd hd1 R.nd R.done R.dist (Nat.le_trans (R.few hs) h16)⟩
    · have hpos : 0 < la.length := List.length_pos_iff.mpr c
      have e : decide ((((la.map nv).length : Nat) : Int) > 0) = true := by
        rw [List.length_map]
        exact decide_eq_true (by omega)
      rw [e]
      refine iteT ⟨_, fun σ' H' q => q, ?_⟩
      refine ⟨(by show 0 ≤ sizeLine; decide), fun f hf => ?_⟩
      have lf : l ≠ f := ne_of_none hl1 hf
      have df : d ≠ f := ne_of_none hd1 hf
      have hfH : H f = none := s1.free hf
      have late_lt : ∀ z, z ∈ la → z < 2 ^ n := fun z hz => W.lt hs ((R.keys z).mp (List.mem_map.mpr ⟨_, (R.late z).mp hz, rfl⟩))
      refine ⟨_, rfl, l, rfl, ⟨la.map nv, SqL.of (by rw [upd_ne lf]; exact hl1)⟩, for_list (K := K) (a := l) (xs := la.map nv)
        (fun i σ H2 => ∃ v6 v7 : Option V, σ = [some (nv n), some (nv s), some (.ref a), some (.ref d), some (.ref l), some (.ref f), v6, v7] ∧ Here H H2 d l f kvs la (grow (kvs.map (·.1)) [] ((la.take i).flatMap (beh n ts))) r)
        ⟨v6, v7, rfl, Same.put s1 hfH, ?_, ?_, upd_same⟩ (fun i σ H2 _ ⟨_, _, _, q⟩ => SqL.of q.late) ?_ ?_⟩
      · rw [upd_ne df, hd1]
        show _ = some (HO.dK ((kvs ++ []).map ent))
        rw [List.append_nil]
      · rw [upd_ne lf]
        exact hl1
      · rintro i x σ H2 hx ⟨v6, v7, rfl, q⟩
        obtain ⟨z, hz, rfl⟩ := map_at hx
        have hzl : z ∈ la := List.mem_of_getElem? hz
        refine ⟨_, rfl, _, rfl, _, rfl, n, z, a, ts, rfl, q.same.seq hS, hl, hn, fun H3 p s3 hp hP => ⟨p, rfl, ⟨_, SqL.of hP⟩, for_list (K := K) (a := p) (xs := (beh n ts z).map nv)
          (fun j σ H4 => ∃ v7 : Option V, σ = [some (nv n), some (nv s), some (.ref a), some (.ref d), some (.ref l), some (.ref f), some (nv z), v7] ∧ Here H H4 d l f kvs la (grow (kvs.map (·.1)) (grow (kvs.map (·.1)) [] ((la.take i).flatMap (beh n ts))) ((beh n ts z).take j)) r ∧ H4 p = some (.lst ((beh n ts z).map nv)))
          ⟨v7, rfl, ⟨q.same.trans s3, s3 _ _ q.dict, s3 _ _ q.late, s3 _ _ q.furt⟩, hP⟩ (fun j σ H4 _ ⟨_, _, _, h⟩ => SqL.of h) ?_ ?_⟩⟩
        · rintro j x σ H4 hx ⟨v7, rfl, q4, hP4⟩
          obtain ⟨y, hy, rfl⟩ := map_at hx
          have hnd : (kvs.map (·.1) ++ grow (kvs.map (·.1)) (grow (kvs.map (·.1)) [] ((la.take i).flatMap (beh n ts))) ((beh n ts z).take j)).Nodup := grow_nodup (grow_nodup (by rw [List.append_nil]; exact R.nd))
          have hlt : ∀ x ∈ grow (kvs.map (·.1)) (grow (kvs.map (·.1)) [] ((la.take i).flatMap (beh n ts))) ((beh n ts z).take j), x < 2 ^ n := fun x hx => by
            rcases mem_grow.mp hx with h | ⟨h, _⟩
            · rcases mem_grow.mp h with h | ⟨h, _⟩
              · cases h
              · obtain ⟨u, hu, hb⟩ := List.mem_flatMap.mp h
                exact (mem_beh.mp hb).lt (late_lt u (List.mem_of_mem_take hu))
            · exact (mem_beh.mp (List.mem_of_mem_take h)).lt (late_lt z hzl)
          have gn : grow (kvs.map (·.1)) (grow (kvs.map (·.1)) [] ((la.take i).flatMap (beh n ts))) ((beh n ts z).take (j + 1)) = if y ∈ kvs.map (·.1) ∨ y ∈ grow (kvs.map (·.1)) (grow (kvs.map (·.1)) [] ((la.take i).flatMap (beh n ts))) ((beh n ts z).take j) then grow (kvs.map (·.1)) (grow (kvs.map (·.1)) [] ((la.take i).flatMap (beh n ts))) ((beh n ts z).take j) else grow (kvs.map (·.1)) (grow (kvs.map (·.1)) [] ((la.take i).flatMap (beh n ts))) ((beh n ts z).take j) ++ [y] := by
            rw [take_more hy, grow_append]
            rfl
          rw [gn]
          generalize hg : grow (kvs.map (·.1)) (grow (kvs.map (·.1)) [] ((la.take i).flatMap (beh n ts))) ((beh n ts z).take j) = g at *
          have hk := new_keys kvs g r
          have hlen : kvs.length + g.length ≤ 2 ^ n := by
            have := nodup_few hnd fun x hx => by
              rcases List.mem_append.mp hx with h | h
              · exact W.lt hs ((R.keys x).mp h)
              · exact hlt x h
            rw [List.length_append, List.length_map] at this
            exact this
          have pf : p ≠ f := ne_of_none (H := H2) q.furt hp |>.symm
          have pd : p ≠ d := ne_of_none (H := H2) q.dict hp |>.symm
          refine ⟨_, rfl, _, rfl, d, _, rfl, DGet.k (k := Sum.inl (y : Int)) q4.dict, _, rfl, ?_⟩
          by_cases c : y ∈ kvs.map (·.1) ∨ y ∈ g
          · obtain ⟨m, _, e⟩ := val_there (x := y) (l := kvs ++ g.map fun y => (y, r + 1)) (by rw [hk]; exact hnd) (by rw [hk]; exact List.mem_append.mpr c)
            rw [e, if_pos c]
            exact iteF ⟨some (nv y), rfl, q4, hP4⟩
          · have e := val_none (x := y) (l := kvs ++ g.map fun y => (y, r + 1)) (by rw [hk]; exact fun h => c (List.mem_append.mp h))
            have ez := val_some (x := z) (k := r) (l := kvs ++ g.map fun y => (y, r + 1)) (by rw [hk]; exact hnd) (List.mem_append.mpr (.inl ((R.late z).mp hzl)))
            rw [e, if_neg c]
            refine iteT ⟨_, rfl, _, rfl, d, nv r, rfl, (by rw [← ez]; exact DGet.k (k := Sum.inl (z : Int)) q4.dict), (r : Int), 1, rfl, rfl, _, rfl, _, rfl, d, _, rfl, DPut.k (k := Sum.inl (y : Int)) q4.dict (by rw [List.length_map, List.length_append, List.length_map]; exact small1000 (by omega)), _, rfl, .inl ⟨rfl, _, SqL.of (by rw [upd_ne df.symm]; exact q4.furt)⟩, _, rfl, f, g.map nv, nv y, rfl, rfl, (by rw [upd_ne df.symm]; exact q4.furt), (by rw [List.length_map]; exact small1000 (by omega)), some (nv y), rfl, ⟨?_, ?_, ?_, ?_⟩, ?_⟩
            · exact Same.put (Same.put q4.same hd) hfH
            · rw [upd_ne df, upd_same, putK_new _ e]
              have e2 : (kvs ++ (g ++ [y]).map fun y => (y, r + 1)).map ent = (kvs ++ g.map fun y => (y, r + 1)).map ent ++ [ent (y, r + 1)] := by simp
              rw [e2]
              rfl
            · rw [upd_ne lf, upd_ne (ne_of hl1 hd1 (by intro z; cases z))]
              exact q4.late
            · rw [upd_same, List.map_append]
              rfl
            · rw [upd_ne pf, upd_ne pd]
              exact hP4
        · rintro σ H4 ⟨v7, rfl, q4, _⟩
          refine ⟨some (nv z), v7, rfl, ?_⟩
          have e : grow (kvs.map (·.1)) [] ((la.take (i + 1)).flatMap (beh n ts)) = grow (kvs.map (·.1)) (grow (kvs.map (·.1)) [] ((la.take i).flatMap (beh n ts))) ((beh n ts z).take ((beh n ts z).map nv).length) := by
            rw [take_more hz, List.flatMap_append, grow_append, List.length_map, List.take_length]
            simp
          rw [e]
          exact q4
      · rintro σ H4 ⟨v6, v7, rfl, q⟩
        rw [List.length_map, List.take_length] at q
        have Rn := R.next
        refine ⟨_, rfl, _, ?_, r + 1, kvs ++ (grow (kvs.map (·.1)) [] (la.flatMap (beh n ts))).map (fun y => (y, r + 1)), grow (kvs.map (·.1)) [] (la.flatMap (beh n ts)), f, some (.ref f), v6, v7, rfl, rfl, q.same, q.dict, q.furt, hfH, Rn⟩
        have l1 := Rn.few hs
        rw [List.length_append, List.length_map] at l1 ⊢
        rw [if_neg c]
        by_cases c2 : grow (kvs.map (·.1)) [] (la.flatMap (beh n ts)) = []
        · rw [if_pos c2]
          omega
        · rw [if_neg c2]
          have := List.length_pos_iff.mpr c2
          omega
end
end Tw
namespace Tw
open PySem PySem.Spec PyProof.Rows L2
def spCom (K : PySem.W.Frag) : Sp := fun vs H Q _ => ∃ (n s : Nat) (a : Addr) (ts : List Nat), vs = [nv n, nv s, .ref a] ∧ SqL K H a (ts.map nv) ∧ ts.length = n ∧ n ≤ 4 ∧ s < 2 ^ n ∧
  ∀ (H' : Hp) (p : Addr), Same H H' → H p = none → H' p = some (.lst ((Kzk4.reach n ts s).map nv)) → Q (.ref p) H'
theorem pow16 {n : Nat} (h : n ≤ 4) : 2 ^ n ≤ 16 := by
  have : 2 ^ n ≤ 2 ^ 4 := Nat.pow_le_pow_right (by decide) h
  exact this
section
variable {P : Program} {w : World} {K : PySem.W.Frag} {mg : Str → Option Value} {base : Heap}
/-! ### come_to -/
theorem ok_com {f : Addr} {fd : FuncData} (F : Fun K "come_to" "come_to" sCom f fd) (T : Txt mg)
    (HW : Has P w K mg base 4 "fewest_changes" ["n", "s", "t"] (spFew K)) :
    FnOk P w K mg base CX0 5 f fd ["n", "s", "t"] (spCom K) := by
  refine F.ok scCom (fun vs H Q E h => ?_) (fun cdv A outer s H vs Q E hr h => ?_)
  · obtain ⟨n, s, a, ts, rfl, _⟩ := h
    rfl
  · obtain ⟨n, s, a, ts, rfl, hS, hl, hn, hs, k⟩ := h
    refine ⟨_, pss_one (ps_ret (pe_callB (cr_sortedKeys rfl) (by rfl) T.b_sorted (by decide +kernel)
        (pa_cons (pe_bm0 PySem.F.plainAttrs_dict PySem.F.slot_dict_keys PySem.F.type_dict_keys mt_keys (pe_callH HW hr (pa_cons (pv 0) (pa_cons (pv 1) (pa_cons (pv 2) pa_nil))))) pa_nil))), ?_⟩
    refine ⟨_, rfl, _, rfl, _, rfl, n, s, a, ts, rfl, hS, hl, hn, hs, fun H2 p kvs s2 hp hP nd hc hdist h16 => ⟨.inr (.inr (.inl ⟨rfl, .inl ⟨_, hP⟩⟩)), p, _, rfl, rfl, hP, fun v hv => ⟨v, p, kvs.map ent, (kvs.map (·.1)).map fun x : Nat => (x : Int), rfl, upd_same, ?_, ?_, ?_, fun ys q perm rising hq => ?_⟩⟩⟩
    · rw [upd_ne (ne_of_none hP hv)]
      exact hP
    · rw [List.map_map, List.map_map, List.map_map]
      rfl
    · rw [List.length_map, List.length_map]
      omega
    · have e := sorted_is hs perm rising nd hc
      have s3 : Same H (upd H2 v (keysO v p)) := Same.put s2 (s2.free hv)
      refine k _ q (Same.put s3 (s3.free hq)) (s3.free hq) ?_
      rw [upd_same, e]
      unfold asI
      rw [List.map_map]
      rfl
end
end Tw
namespace Tw
open PySem PySem.Spec PyProof.Rows L2
def spTra (K : PySem.W.Frag) : Sp := fun vs H Q _ => ∃ (n : Nat) (a : Addr) (ts : List Nat), vs = [nv n, .ref a] ∧ SqL K H a (ts.map nv) ∧ ts.length ≤ 10 ∧ ∀ (H' : Hp) (p : Addr), H' p = some (.lst ((trapsA n ts).map V.int)) → Q (.ref p) H'
theorem in_nv (x : Nat) : ∀ l : List Nat, inV (nv x) (l.map nv) = l.contains x
  | [] => rfl
  | y :: l => by
    have ih := in_nv x l
    unfold inV at ih ⊢
    rw [List.map_cons, List.any_cons, ih, List.contains_cons]
    congr 1
    show ((y : Int) == (x : Int)) = (x == y)
    rw [Bool.eq_iff_iff, beq_iff_eq, beq_iff_eq]
    omega
theorem flat_nv (l : List Nat) : (l.map nv).all flatV = true := by
  rw [List.all_map, List.all_eq_true]
  intro x _
  rfl
/-- the lists at ads hold what is come to from 0, 1, .. -/
def Tab (n : Nat) (ts : List Nat) (H : Hp) (ads : List Addr) : Prop := ∀ (j : Nat) (b : Addr), ads[j]? = some b → H b = some (.lst ((Kzk4.reach n ts j).map nv))
theorem Tab.same {n : Nat} {ts : List Nat} {H H' : Hp} {ads : List Addr} (h : Tab n ts H ads) (s : Same H H') : Tab n ts H' ads := fun j b e => s _ _ (h j b e)
theorem Tab.at {n : Nat} {ts : List Nat} {H : Hp} {ads : List Addr} (h : Tab n ts H ads) {j : Nat} (hj : j < ads.length) : ∃ b, (ads.map V.ref)[j]? = some (V.ref b) ∧ H b = some (.lst ((Kzk4.reach n ts j).map nv)) := by
  refine ⟨ads[j], ?_, h j _ (List.getElem?_eq_getElem hj)⟩
  rw [List.getElem?_map, List.getElem?_eq_getElem hj]
  rfl
section
variable {P : Program} {w : World} {K : PySem.W.Frag} {mg : Str → Option Value} {base : Heap}
/-! ### traps -/
theorem ok_tra {f : Addr} {fd : FuncData} (F : Fun K "traps" "traps" sTra f fd) (T : Txt mg)
    (HF : Has P w K mg base 2 "rules_fit" ["n", "t"] (spFit K))
    (HP : Has P w K mg base 1 "power_of_two" ["exponent"] spPow)
    (HC : Has P w K mg base 5 "come_to" ["n", "s", "t"] (spCom K)) :
    FnOk P w K mg base CX0 6 f fd ["n", "t"] (spTra K) := by
  obtain ⟨tkR, mgR⟩ := T.c_REFUSED
  refine F.ok scTra (fun vs H Q E h => ?_) (fun cdv A outer s H vs Q E hr h => ?_)
  · obtain ⟨n, a, ts, rfl, _⟩ := h
    rfl
  · obtain ⟨n, a, ts, rfl, hS, hlen, k⟩ := h
    refine ⟨_, pss_cons (ps_if (pt_not (pt_val (pe_callH HF hr (pa_cons (pv 0) (pa_cons (pv 1) pa_nil)))))
        (pss_one (ps_ret (pe_lst (pa_cons (pe_glob (v := .int (-22)) rfl mgR ⟨_, rfl⟩) pa_nil)))) pss_nil)
      (pss_cons (ps_set (i := 3) scTra.nd rfl (Or.inr rfl) (pe_lc (own := [("s", 2)]) (g := gName 2) (tt := tYes) rfl scTra.nd (pi_range1 rfl T.b_range (pa_cons (pe_callH HP hr (pa_cons (pv 0) pa_nil)) pa_nil)) (blkOk_by (N := NTra) (sc := defScope sTra) (by decide +kernel))
        (fun _ _ _ _ _ => pg_name (i := 2) scTra.nd rfl (Or.inl rfl)) (fun _ _ _ _ _ => pts_nil) (fun _ _ _ _ _ => pe_callH HC hr (pa_cons (pv 0) (pa_cons (pv 2) (pa_cons (pv 1) pa_nil))))))
      (pss_cons (ps_set (i := 4) scTra.nd rfl (Or.inl rfl) (pe_lst pa_nil))
      (pss_cons (ps_for PassesOwn.never rfl (pi_enum (by rfl) T.b_enumerate (pa_cons (pv 3) pa_nil)) (pg_tup rfl (pgs_cons (pg_name (i := 2) scTra.nd rfl (Or.inr rfl)) (pgs_cons (pg_name (i := 5) scTra.nd rfl (Or.inl rfl)) pgs_nil)))
        (pss_one (ps_if (PW.pt (pw_and (pt_cmpR op_eq (pv 2) (pe_ix ix_list (pv 5) pe_int (fun _ _ => rfl)) (nomark _)) (pw_and1 (pt_val (pe_callB (cr_all rfl) (by rfl) T.b_all (by decide +kernel) (pa_cons (pe_lc (own := [("x", 6)]) (g := gName 6) (tt := tYes) rfl scTra.nd (pi_list (pv 5)) (blkOk_by (N := NTra) (sc := defScope sTra) (by decide +kernel))
            (fun _ _ _ _ _ => pg_name (i := 6) scTra.nd rfl (Or.inl rfl)) (fun _ _ _ _ _ => pts_nil) (fun _ _ _ _ _ => pe_cmpR (r := rIn K false) op_in_seq (pv 2) (pe_ix (r := rIxL K) ix_list (pv 3) (pv 6) (fun _ _ => rfl)) (by rfl))) pa_nil))))))
          (pss_one (ps_set (i := 4) scTra.nd rfl (Or.inl rfl) (pe_op op_cat (pv 4) (pe_lst (pa_cons (pv 2) (pa_cons (pe_callB call_len_seq (by rfl) T.b_len PySem.boot_len (pa_cons (pv 5) pa_nil)) pa_nil))))))
          pss_nil)))
      (pss_one (ps_ret (pe_op op_cat (pe_lst (pa_cons (pe_op op_fdiv (pe_callB call_len_seq (by rfl) T.b_len PySem.boot_len (pa_cons (pv 4) pa_nil)) pe_int) pa_nil)) (pv 4))))))), ?_⟩
    refine ⟨_, rfl, _, rfl, n, a, ts, rfl, hS, hlen, fun H1 s1 => ⟨_, rfl, ?_⟩⟩
    cases hf : Kzk1.okTowers n ts with
    | false =>
      refine iteT ⟨(by show 1 ≤ sizeLine; decide), fun p hp => k _ p ?_⟩
      rw [upd_same]
      unfold trapsA
      rw [hf]
      rfl
    | true =>
      obtain ⟨_, hn, hl⟩ := fit_facts hf
      have h16 := pow16 hn
      refine iteF ⟨_, rfl, n, rfl, by omega, ((2 ^ n : Nat) : Int), rfl, Int.le_trans (by decide) (Int.natCast_nonneg _), Int.lt_of_le_of_lt (Int.ofNat_le.mpr h16) (by decide), fun D hD => lc_range (lo := 0) (n := 2 ^ n)
        (fun i H' => ∃ ads : List Addr, ads.length = i ∧ Same H1 H' ∧ H' D = some (.lst (ads.map V.ref)) ∧ (∀ b ∈ ads, b ≠ D) ∧ Tab n ts H' ads)
        ⟨[], rfl, Same.put (Same.refl H1) hD, upd_same, fun _ z => (nomatch z), fun j b z => (nomatch z)⟩ ?_ ?_⟩
      · rintro i H' hi ⟨ads, rfl, q, qD, qn, qT⟩
        refine ⟨rfl, _, rfl, _, rfl, _, rfl, n, ads.length, a, ts, ?_, (s1.trans q).seq hS, hl, hn, hi, fun H2 p s2 hp hP => ⟨_, s2 _ _ qD, ?_, ads ++ [p], ?_, Same.put (q.trans s2) hD, ?_, ?_, ?_⟩⟩
        · show [nv n, V.int (0 + (ads.length : Int)), V.ref a] = _
          rw [Int.zero_add]
          rfl
        · rw [List.length_map]
          exact small1000 (by omega)
        · rw [List.length_append]
          rfl
        · rw [upd_same, List.map_append]
          rfl
        · intro b hb
          rcases List.mem_append.mp hb with z | z
          · exact qn b z
          · rw [List.mem_singleton.mp z]
            exact (ne_of_none qD hp).symm
        · intro j b e
          have pD : p ≠ D := (ne_of_none qD hp).symm
          by_cases hj : j < ads.length
          · rw [List.getElem?_append_left hj] at e
            rw [upd_ne (qn b (List.mem_of_getElem? e))]
            exact s2 _ _ (qT j b e)
          · rw [List.getElem?_append_right (by omega)] at e
            have hj2 : j - ads.length = 0 := by
              rcases Nat.eq_zero_or_pos (j - ads.length) with z | z
              · exact z
              · rw [List.getElem?_eq_none (by show 1 ≤ _; omega)] at e
                cases e
            rw [hj2] at e
            have e2 : p = b := Option.some.inj e
            subst e2
            have e3 : j = ads.length := by omega
            subst e3
            rw [upd_ne pD]
            exact hP
      · rintro H2 ⟨ads, hal, q, qD, _, qT⟩
        refine ⟨(by show 0 ≤ sizeLine; decide), fun f0 hf0 => ?_⟩
        have sf : Same H2 (upd H2 f0 (.lst [])) := Same.put (Same.refl H2) hf0
        refine ⟨_, rfl, D, ads.map V.ref, rfl, SqL.of (sf _ _ qD), for_it (walk_enum (K := K) (a := D) (xs := ads.map V.ref))
          (fun i σ H' => ∃ (f : Addr) (v2 v5 : Option V), σ = [some (nv n), some (.ref a), v2, some (.ref D), some (.ref f), v5, none] ∧ Same H2 H' ∧ H' f = some (.lst ((found n ts i).map nv)))
          ⟨f0, none, none, rfl, sf, upd_same⟩ (fun i σ H' _ ⟨_, _, _, _, q, _⟩ => SqL.of (q _ _ qD)) ?_ ?_⟩
        · rintro i x σ H3 H4 hi ⟨f, v2, v5, rfl, q3, q3f⟩ ⟨X, y, z, rfl, hX, rfl, hy, hz⟩
          rw [List.length_map, hal] at hi
          obtain ⟨b, hb, hB⟩ := qT.at (j := i) (by omega)
          cases hb.symm.trans hz
          cases hy
          have sX : Same H2 (upd H3 X (.tup [V.int (i : Nat), V.ref b])) := Same.put q3 (q3.free hX)
          have hfX : (upd H3 X (.tup [V.int (i : Nat), V.ref b])) f = some (.lst ((found n ts i).map nv)) := by
            rw [upd_ne (ne_of_none q3f hX)]
            exact q3f
          have few := found_few n ts i
          have len := reach_len (t := ts) hi
          refine ⟨X, _, rfl, SqT.of upd_same, rfl, _, _, rfl, _, _, rfl, rfl, ?_⟩
          refine ⟨_, rfl, _, rfl, b, _, _, nv (least n ts i), rfl, rfl, SqL.of (sX _ _ hB), atI_nat (j := 0) ?_, rfl, _, rfl, ?_⟩
          · rw [List.getElem?_map, least_at hi]
            rfl
          by_cases c : i = least n ts i
          · have e : decide (V.int ((i : Nat) : Int) = nv (least n ts i)) = true := decide_eq_true (by show nv i = _; rw [← c])
            rw [e]
            refine iteT ⟨_, rfl, b, rfl, ⟨_, SqL.of (sX _ _ hB)⟩, fun D2 hD2 => lc_list (K := K) (a := b) (xs := (Kzk4.reach n ts i).map nv)
              (fun j H' => Same (upd H3 X (.tup [V.int (i : Nat), V.ref b])) H' ∧ H' D2 = some (.lst ((((Kzk4.reach n ts i).take j).map fun x => (Kzk4.reach n ts x).contains i).map V.bl)))
              ⟨Same.put (Same.refl _) hD2, upd_same⟩ (fun j H' _ ⟨q, _⟩ => SqL.of (q _ _ (sX _ _ hB))) ?_ ?_⟩
            · rintro j x H5 hx ⟨q5, q5D⟩
              obtain ⟨z, hz, rfl⟩ := map_at hx
              have hzl := reach_lt hi (List.mem_of_getElem? hz)
              obtain ⟨b2, hb2, hB2⟩ := qT.at (j := z) (by omega)
              refine ⟨rfl, _, rfl, _, rfl, _, rfl, D, _, _, _, rfl, rfl, SqL.of (q5 _ _ (sX _ _ qD)), atI_nat hb2, b2, _, rfl, .inl (SqL.of (q5 _ _ (sX _ _ hB2))), rfl, flat_nv _, _, q5D, ?_, Same.put q5 hD2, ?_⟩
              · rw [List.length_map, List.length_map, List.length_take]
                exact small1000 (by omega)
              · rw [upd_same, take_more hz, List.map_append, List.map_append]
                show some (HO.lst (_ ++ [V.bl (inV (nv i) ((Kzk4.reach n ts z).map nv))])) = _
                rw [in_nv]
                rfl
            · rintro H5 ⟨q5, q5D⟩
              rw [List.length_map, List.take_length] at q5D
              refine ⟨D2, _, rfl, SqL.of q5D, _, rfl, ?_⟩
              rw [← lead_is hi c]
              cases hL : lead n ts i with
              | false =>
                refine iteF ⟨f, some (nv i), some (.ref b), rfl, sX.trans q5, ?_⟩
                rw [found_no hL]
                exact q5 _ _ hfX
              | true =>
                refine iteT ⟨_, rfl, _, rfl, _, rfl, b, _, rfl, .inl (SqL.of (q5 _ _ (sX _ _ hB))), (by show 2 ≤ sizeLine; decide), fun l hl => ⟨f, l, (found n ts i).map nv, _, rfl, rfl, ?_, upd_same, ?_, fun p hp => ⟨p, some (nv i), some (.ref b), rfl, ?_, ?_⟩⟩⟩
                · rw [upd_ne (ne_of_none (q5 _ _ hfX) hl)]
                  exact q5 _ _ hfX
                · rw [List.length_map]
                  exact Nat.le_of_lt (small1000 (by show _ + 2 ≤ 1000; omega))
                · have s6 : Same H2 (upd H5 l (.lst [V.int (i : Nat), V.int ((((Kzk4.reach n ts i).map nv).length : Nat) : Int)])) := Same.put (sX.trans q5) ((sX.trans q5).free hl)
                  exact Same.put s6 (s6.free hp)
                · rw [upd_same, found_yes hL, List.map_append, List.length_map]
                  rfl
          · have e : decide (V.int ((i : Nat) : Int) = nv (least n ts i)) = false := decide_eq_false (fun z => c (Int.ofNat.inj (V.int.inj z)))
            rw [e]
            refine iteF (iteF ⟨f, some (nv i), some (.ref b), rfl, sX, ?_⟩)
            rw [found_no (lead_no hi c)]
            exact hfX
        · rintro σ H3 ⟨f, v2, v5, rfl, q3, q3f⟩
          rw [List.length_map, hal] at q3f
          have few := found_few n ts (2 ^ n)
          refine ⟨_, rfl, f, _, rfl, .inl (SqL.of q3f), _, _, rfl, rfl, ⟨by decide, by decide⟩, (by show 1 ≤ sizeLine; decide), fun p1 hp1 => ⟨_, rfl, p1, f, _, (found n ts (2 ^ n)).map nv, rfl, rfl, upd_same, ?_, ?_, fun p2 hp2 => k _ p2 ?_⟩⟩
          · rw [upd_ne (ne_of_none q3f hp1)]
            exact q3f
          · rw [List.length_map]
            exact Nat.le_of_lt (small1000 (by show 1 + _ ≤ 1000; omega))
          · rw [upd_same, trapsA_is hf, List.length_map]
            unfold asI
            rw [List.map_map]
            rfl
end
end Tw
namespace Tw
open PySem PySem.Spec PyProof.Rows L2
/-! ### what the top has written -/
theorem all_mk {P : Program} {w : World} {K : PySem.W.Frag} {h : Heap} {mg : Str → Option Value} {fa f3 f4 f5 f6 f7 f8 f9 f10 : Addr} (X : K.In h) (G : h.Ns mainGlobals mg) (hfa : mg "traps" = some (.ref fa))
    {od3 an3 od4 an4 od5 an5 od6 an6 od7 an7 od8 an8 od9 an9 od10 an10 : Option Addr} {sl3 sl4 sl5 sl6 sl7 sl8 sl9 sl10 : Array (Option Value)}
    {oc3 kV3 dc3 pm3 cd3 ct3 oc4 kV4 dc4 pm4 cd4 ct4 oc5 kV5 dc5 pm5 cd5 ct5 oc6 kV6 dc6 pm6 cd6 ct6 oc7 kV7 dc7 pm7 cd7 ct7 oc8 kV8 dc8 pm8 cd8 ct8 oc9 kV9 dc9 pm9 cd9 ct9 oc10 kV10 dc10 pm10 cd10 ct10 : Value} {tkMOST_TOWERS tkREFUSED : Tok}
    (g_range : PySem.W.nsIn K mainGlobals "range" = some none)
    (g_len : PySem.W.nsIn K mainGlobals "len" = some none)
    (g_all : PySem.W.nsIn K mainGlobals "all" = some none)
    (g_sorted : PySem.W.nsIn K mainGlobals "sorted" = some none)
    (g_enumerate : PySem.W.nsIn K mainGlobals "enumerate" = some none)
    (g_MOST_TOWERS : PySem.W.nsIn K mainGlobals "MOST_TOWERS" = some (some (.int 4 tkMOST_TOWERS)))
    (g_REFUSED : PySem.W.nsIn K mainGlobals "REFUSED" = some (some (.int (-22) tkREFUSED)))
    (a3 : PySem.W.nsIn K mainGlobals "power_of_two" = some (some (.ref f3)))
    (l3 : K.lookup f3 = some ⟨oc3, od3, .func (PySem.W.fnOf "power_of_two" "power_of_two" (defArgs sPow) (defBody sPow) (defScope sPow) .none kV3 dc3 pm3 an3 cd3 ct3), sl3⟩)
    (c3 : PySem.W.codeIn K cd3 "power_of_two" = true) (k3 : PySem.W.keepIn K (.ref f3) = true)
    (a4 : PySem.W.nsIn K mainGlobals "bit" = some (some (.ref f4)))
    (l4 : K.lookup f4 = some ⟨oc4, od4, .func (PySem.W.fnOf "bit" "bit" (defArgs sBit) (defBody sBit) (defScope sBit) .none kV4 dc4 pm4 an4 cd4 ct4), sl4⟩)
    (c4 : PySem.W.codeIn K cd4 "bit" = true) (k4 : PySem.W.keepIn K (.ref f4) = true)
    (a5 : PySem.W.nsIn K mainGlobals "rules_fit" = some (some (.ref f5)))
    (l5 : K.lookup f5 = some ⟨oc5, od5, .func (PySem.W.fnOf "rules_fit" "rules_fit" (defArgs sFit) (defBody sFit) (defScope sFit) .none kV5 dc5 pm5 an5 cd5 ct5), sl5⟩)
    (c5 : PySem.W.codeIn K cd5 "rules_fit" = true) (k5 : PySem.W.keepIn K (.ref f5) = true)
    (a6 : PySem.W.nsIn K mainGlobals "would_change" = some (some (.ref f6)))
    (l6 : K.lookup f6 = some ⟨oc6, od6, .func (PySem.W.fnOf "would_change" "would_change" (defArgs sChg) (defBody sChg) (defScope sChg) .none kV6 dc6 pm6 an6 cd6 ct6), sl6⟩)
    (c6 : PySem.W.codeIn K cd6 "would_change" = true) (k6 : PySem.W.keepIn K (.ref f6) = true)
    (a7 : PySem.W.nsIn K mainGlobals "behind_one_change" = some (some (.ref f7)))
    (l7 : K.lookup f7 = some ⟨oc7, od7, .func (PySem.W.fnOf "behind_one_change" "behind_one_change" (defArgs sBeh) (defBody sBeh) (defScope sBeh) .none kV7 dc7 pm7 an7 cd7 ct7), sl7⟩)
    (c7 : PySem.W.codeIn K cd7 "behind_one_change" = true) (k7 : PySem.W.keepIn K (.ref f7) = true)
    (a8 : PySem.W.nsIn K mainGlobals "fewest_changes" = some (some (.ref f8)))
    (l8 : K.lookup f8 = some ⟨oc8, od8, .func (PySem.W.fnOf "fewest_changes" "fewest_changes" (defArgs sFew) (defBody sFew) (defScope sFew) .none kV8 dc8 pm8 an8 cd8 ct8), sl8⟩)
    (c8 : PySem.W.codeIn K cd8 "fewest_changes" = true) (k8 : PySem.W.keepIn K (.ref f8) = true)
    (a9 : PySem.W.nsIn K mainGlobals "come_to" = some (some (.ref f9)))
    (l9 : K.lookup f9 = some ⟨oc9, od9, .func (PySem.W.fnOf "come_to" "come_to" (defArgs sCom) (defBody sCom) (defScope sCom) .none kV9 dc9 pm9 an9 cd9 ct9), sl9⟩)
    (c9 : PySem.W.codeIn K cd9 "come_to" = true) (k9 : PySem.W.keepIn K (.ref f9) = true)
    (a10 : PySem.W.nsIn K mainGlobals "traps" = some (some (.ref f10)))
    (l10 : K.lookup f10 = some ⟨oc10, od10, .func (PySem.W.fnOf "traps" "traps" (defArgs sTra) (defBody sTra) (defScope sTra) .none kV10 dc10 pm10 an10 cd10 ct10), sl10⟩)
    (c10 : PySem.W.codeIn K cd10 "traps" = true) (k10 : PySem.W.keepIn K (.ref f10) = true)
    : ∃ fd : FuncData, (∀ (s : Shared) (us : List Value), us.length = PTra.length → BindsTo s fd ⟨us, []⟩ (PTra.zip us)) ∧ ∀ base : Heap, K.In base → base.Ns mainGlobals mg → FnOk P w K mg base CX0 6 fa fd PTra (spTra K) := by
  have T : Txt mg := ⟨PySem.W.mg_none_of X G g_range, PySem.W.mg_none_of X G g_len, PySem.W.mg_none_of X G g_all, PySem.W.mg_none_of X G g_sorted, PySem.W.mg_none_of X G g_enumerate, ⟨_, PySem.W.mg_of X G g_MOST_TOWERS⟩, ⟨_, PySem.W.mg_of X G g_REFUSED⟩⟩
  have FPow := fun_mk (st := sPow) l3 c3 k3
  have bPow := FPow.binds (ps := PPow) fun _ _ _ _ _ _ us hl => match us, hl with | [_], _ => rfl
  have mPow := PySem.W.mg_of X G a3
  have FBit := fun_mk (st := sBit) l4 c4 k4
  have bBit := FBit.binds (ps := PBit) fun _ _ _ _ _ _ us hl => match us, hl with | [_, _], _ => rfl
  have mBit := PySem.W.mg_of X G a4
  have FFit := fun_mk (st := sFit) l5 c5 k5
  have bFit := FFit.binds (ps := PFit) fun _ _ _ _ _ _ us hl => match us, hl with | [_, _], _ => rfl
  have mFit := PySem.W.mg_of X G a5
  have FChg := fun_mk (st := sChg) l6 c6 k6
  have bChg := FChg.binds (ps := PChg) fun _ _ _ _ _ _ us hl => match us, hl with | [_, _, _], _ => rfl
  have mChg := PySem.W.mg_of X G a6
  have FBeh := fun_mk (st := sBeh) l7 c7 k7
  have bBeh := FBeh.binds (ps := PBeh) fun _ _ _ _ _ _ us hl => match us, hl with | [_, _, _], _ => rfl
  have mBeh := PySem.W.mg_of X G a7
  have FFew := fun_mk (st := sFew) l8 c8 k8
  have bFew := FFew.binds (ps := PFew) fun _ _ _ _ _ _ us hl => match us, hl with | [_, _, _], _ => rfl
  have mFew := PySem.W.mg_of X G a8
  have FCom := fun_mk (st := sCom) l9 c9 k9
  have bCom := FCom.binds (ps := PCom) fun _ _ _ _ _ _ us hl => match us, hl with | [_, _, _], _ => rfl
  have mCom := PySem.W.mg_of X G a9
  have FTra := fun_mk (st := sTra) l10 c10 k10
  have bTra := FTra.binds (ps := PTra) fun _ _ _ _ _ _ us hl => match us, hl with | [_, _], _ => rfl
  have mTra := PySem.W.mg_of X G a10
  have e := hfa.symm.trans (PySem.W.mg_of X G a10)
  cases e
  refine ⟨PySem.W.fnOf "traps" "traps" (defArgs sTra) (defBody sTra) (defScope sTra) .none kV10 dc10 pm10 an10 cd10 ct10, fun s us hu => match us, hu with | [_, _], _ => .of_eq rfl, fun base _ _ => ?_⟩
  have HPow : Has P w K mg base 1 "power_of_two" PPow spPow := .of FPow mPow bPow (ok_pow FPow T)
  have HBit : Has P w K mg base 1 "bit" PBit spBit := .of FBit mBit bBit (ok_bit FBit)
  have HFit : Has P w K mg base 2 "rules_fit" PFit (spFit K) := .of FFit mFit bFit (ok_fit FFit T HPow)
  have HChg : Has P w K mg base 2 "would_change" PChg (spChg K) := .of FChg mChg bChg (ok_chg FChg HBit)
  have HBeh : Has P w K mg base 3 "behind_one_change" PBeh (spBeh K) := .of FBeh mBeh bBeh (ok_beh FBeh T HPow HChg)
  have HFew : Has P w K mg base 4 "fewest_changes" PFew (spFew K) := .of FFew mFew bFew (ok_few FFew T HBeh)
  have HCom : Has P w K mg base 5 "come_to" PCom (spCom K) := .of FCom mCom bCom (ok_com FCom T HFew)
  exact ok_tra FTra T HFit HPow HCom
end Tw
open PySem PySem.W PyProof.Rows
set_option maxRecDepth 100000 in
set_option maxHeartbeats 8000000 in
theorem PySem.Challenge.cw_towerchanges_s04_traps_holds : PySem.Challenge.rw_towerchanges_s04_traps.Holds := by
  w_on; k_headS; (case hw => exact ⟨[.int 0, .list []], by decide +kernel, by decide +kernel⟩)
  k_fillS
  refine L2.walk_specK (r := PySem.Challenge.rw_towerchanges_s04_traps) (k := 6) (CX := L2.CX0) (ps := Tw.PTra) (sp := Tw.spTra) (by decide +kernel) rfl rfl ⟨rfl, by decide, by decide⟩ (fun w h Y => PySem.W.kIn_of Y) ?F ?S (fun _ _ _ _ z => z)
  case F =>
    intro w mg fa h Y KX G hmg
    refine' Tw.all_mk KX G hmg ?g_range ?g_len ?g_all ?g_sorted ?g_enumerate ?g_MOST_TOWERS ?g_REFUSED ?a3 ?l3 ?c3 ?k3 ?a4 ?l4 ?c4 ?k4 ?a5 ?l5 ?c5 ?k5 ?a6 ?l6 ?c6 ?k6 ?a7 ?l7 ?c7 ?k7 ?a8 ?l8 ?c8 ?k8 ?a9 ?l9 ?c9 ?k9 ?a10 ?l10 ?c10 ?k10
    (case g_range => k_is)
    (case g_len => k_is)
    (case g_all => k_is)
    (case g_sorted => k_is)
    (case g_enumerate => k_is)
    (case g_MOST_TOWERS => k_is)
    (case g_REFUSED => k_is)
    (case a3 => k_is)
    (case l3 => k_is)
    (case c3 => k_is)
    (case k3 => k_is)
    (case a4 => k_is)
    (case l4 => k_is)
    (case c4 => k_is)
    (case k4 => k_is)
    (case a5 => k_is)
    (case l5 => k_is)
    (case c5 => k_is)
    (case k5 => k_is)
    (case a6 => k_is)
    (case l6 => k_is)
    (case c6 => k_is)
    (case k6 => k_is)
    (case a7 => k_is)
    (case l7 => k_is)
    (case c7 => k_is)
    (case k7 => k_is)
    (case a8 => k_is)
    (case l8 => k_is)
    (case c8 => k_is)
    (case k8 => k_is)
    (case a9 => k_is)
    (case l9 => k_is)
    (case c9 => k_is)
    (case k9 => k_is)
    (case a10 => k_is)
    (case l10 => k_is)
    (case c10 => k_is)
    (case k10 => k_is)
  case S =>
    intro K H xs a hO hwi hask hx
    obtain ⟨n, t, u⟩ := a
    cases hx with
    | cons h1 h2 =>
      cases h2 with
      | cons h3 h4 =>
        cases h4
        cases h1
        cases h3 with
        | lst hs ha =>
          have e := L2.ints_dw t _ ha
          subst e
          have q : (Codec.inInt 0 4294967295 n && ((Codec.inLen 0 10 t && t.all (Codec.inInt 0 65535)) && true)) = true := hwi
          rw [Bool.and_eq_true, Bool.and_eq_true, Bool.and_eq_true] at q
          obtain ⟨q1, ⟨q3, q4⟩, _⟩ := q
          have p1 := (Codec.inInt_iff.mp q1).1
          have p4 : ∀ x ∈ t, 0 ≤ x := fun x hx => (Codec.inInt_iff.mp (List.all_eq_true.mp q4 x hx)).1
          have p3 := (Codec.inNat_iff.mp q3).2
          obtain ⟨m, rfl⟩ := Int.eq_ofNat_of_zero_le p1
          rw [Tw.nv_ints p4] at hs
          refine ⟨m, _, t.map Int.toNat, rfl, hs, by rw [List.length_map]; exact p3, fun H' p hp => ?_⟩
          rw [← Tw.traps_spec] at hp
          exact .lst (L2.SqL.of hp) (L2.dw_ints _)
#print axioms PySem.Challenge.cw_towerchanges_s04_traps_holds
