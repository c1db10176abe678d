import Derived.Test.YtohjjgefklhmaaaGreatDoorGDoesM
import Derived.Lib.ItoaMem
import Derived.Lib.ItoaLen
namespace Go.Proofs.YtohjjgefklhmaaaGreatDoor
open Go.ChangeShapes Go.WideShapes Go.ChangeAt Go.RowKit
set_option linter.unusedVariables false

/-! ### numbers as text -/
def numT (n : Int) : List UInt8 := Lib.itoa n ++ [32]
def txt : List Int → List UInt8
  | [] => []
  | n :: l => numT n ++ txt l
theorem txt_append (l m : List Int) : txt (l ++ m) = txt l ++ txt m := by
  induction l with
  | nil => rfl
  | cons a l ih => simp only [List.cons_append, txt, ih, List.append_assoc]
theorem txt_snoc (l : List Int) (n : Int) : txt (l ++ [n]) = txt l ++ (Lib.itoa n ++ [32]) := by
  rw [txt_append]; simp [txt, numT]
theorem txt_length_le (l : List Int) (c : Nat) (h : ∀ n, n ∈ l → (numT n).length ≤ c) : (txt l).length ≤ c * l.length := by
  induction l with
  | nil => simp [txt]
  | cons a l ih =>
    have h1 := h a (by simp)
    have h2 := ih (fun n hn => h n (by simp [hn]))
    simp only [txt, List.length_append, List.length_cons, Nat.mul_add, Nat.mul_one]; omega
theorem numT_len22 (n : Int) (h0 : -9223372036854775808 ≤ n) (h1 : n ≤ 9223372036854775807) : (numT n).length ≤ 22 := by
  have := Lib.itoa_length_le n h0 h1
  simp only [numT, List.length_append, List.length_singleton]; omega
theorem nDigits_le (k : Nat) : ∀ (u : Nat), 1 ≤ k → u < 10 ^ k → Lib.nDigits u ≤ k := by
  induction k with
  | zero => intro u h; omega
  | succ k ih =>
    intro u _ h
    by_cases hu : u < 10
    · rw [Lib.nDigits_small hu]; omega
    · rw [Lib.nDigits_big hu]
      have hk : 1 ≤ k := by
        rcases Nat.eq_zero_or_pos k with rfl | hk
        · simp at h; omega
        · exact hk
      have := ih (u / 10) hk (by rw [Nat.pow_succ] at h; omega)
      omega
theorem numT_len (n : Int) (k : Nat) (hk : 1 ≤ k) (h0 : 0 ≤ n) (h1 : n.toNat < 10 ^ k) : (numT n).length ≤ k + 1 := by
  obtain ⟨u, rfl⟩ := Int.eq_ofNat_of_zero_le h0
  have h2 : Lib.itoa ((u : Nat) : Int) = Lib.decDigits u := Lib.itoa_nonneg u
  simp only [numT, h2, List.length_append, List.length_singleton, Lib.decDigits_length]
  have := nDigits_le k u hk (by simpa using h1)
  omega

/-! ### a number is read -/
def isDig (c : UInt8) : Bool := decide (48 ≤ c.toNat) && decide (c.toNat ≤ 57)
def rdN (most : Int) : List UInt8 → Int → Int × Nat
  | [], n => (n, 0)
  | c :: l, n => if isDig c = true ∧ n ≤ most then ((rdN most l (n * 10 + ((c.toNat : Int) - 48))).1, (rdN most l (n * 10 + ((c.toNat : Int) - 48))).2 + 1) else (n, 0)
theorem isDig_iff (c : UInt8) : isDig c = true ↔ 48 ≤ c.toNat ∧ c.toNat ≤ 57 := by simp [isDig]
theorem rdN_nn (most : Int) (l : List UInt8) : ∀ n : Int, 0 ≤ n → 0 ≤ (rdN most l n).1 := by
  induction l with
  | nil => intro n h; exact h
  | cons c l ih =>
    intro n h
    simp only [rdN]
    split
    · rename_i hc
      have := (isDig_iff c).1 hc.1
      exact ih _ (by omega)
    · exact h
theorem rdN_len (most : Int) (l : List UInt8) : ∀ n : Int, (rdN most l n).2 ≤ l.length := by
  induction l with
  | nil => intro n; simp [rdN]
  | cons c l ih =>
    intro n
    simp only [rdN]
    split
    · have := ih (n * 10 + ((c.toNat : Int) - 48)); simp only [List.length_cons]; omega
    · simp
theorem rdN_append (most : Int) (A B : List UInt8) : ∀ (n m : Int), rdN most A n = (m, A.length) → rdN most (A ++ B) n = ((rdN most B m).1, (rdN most B m).2 + A.length) := by
  induction A with
  | nil => intro n m h; simp only [rdN, List.length_nil, Prod.mk.injEq] at h; obtain ⟨rfl, _⟩ := h; simp
  | cons c A ih =>
    intro n m h
    simp only [rdN] at h
    simp only [List.cons_append, rdN]
    split at h
    · rename_i hc
      rw [if_pos hc]
      simp only [Prod.mk.injEq, List.length_cons, Nat.add_right_cancel_iff] at h
      have := ih (n * 10 + ((c.toNat : Int) - 48)) m (by rw [← h.1, ← h.2])
      rw [this]
      simp only [Prod.mk.injEq, List.length_cons, true_and]; omega
    · simp only [Prod.mk.injEq, List.length_cons] at h; omega
theorem digit_toNat (i : Nat) (h : i < 10) : (UInt8.ofNat (48 + i)).toNat = 48 + i := by
  simp only [UInt8.toNat_ofNat']; omega
theorem rdN_dec (most : Int) (u : Nat) : (u : Int) ≤ most → rdN most (Lib.decDigits u) 0 = ((u : Int), (Lib.decDigits u).length) := by
  induction u using Nat.strongRecOn with
  | _ u ih =>
    intro hu
    have one : ∀ (d : Nat) (n : Int), d < 10 → n ≤ most → rdN most [UInt8.ofNat (48 + d)] n = (n * 10 + d, 1) := by
      intro d n hd hn
      have e := digit_toNat d hd
      simp only [rdN]
      rw [if_pos ⟨(isDig_iff _).2 (by rw [e]; omega), hn⟩, e]
      simp only [Prod.mk.injEq, and_true]; omega
    by_cases h : u < 10
    · rw [Lib.decDigits, dif_pos h, one u 0 h (by omega)]
      simp
    · rw [Lib.decDigits, dif_neg h]
      have h1 := ih (u / 10) (by omega) (by omega)
      rw [rdN_append most _ _ 0 _ h1, one (u % 10) _ (by omega) (by omega)]
      simp only [List.length_append, List.length_singleton, Prod.mk.injEq]
      omega
/-- where a reader stands -/
structure RSE where
  p : Nat
  bad : Bool
def endAt (s : List UInt8) (p : Nat) : Bool := s[p]? == some 32
def nx (s : List UInt8) (most : Int) (st : RSE) : Int × RSE :=
  let q := rdN most (s.drop st.p) 0
  let e := endAt s (st.p + q.2)
  let b := st.bad || (decide (q.2 < 1) || (decide (most < q.1) || !e))
  (if b = true then 0 else q.1, ⟨if e = true then st.p + q.2 + 1 else st.p + q.2, b⟩)
theorem nx_bd (s : List UInt8) (most : Int) (st : RSE) (h : 0 ≤ most) : 0 ≤ (nx s most st).1 ∧ (nx s most st).1 ≤ most := by
  simp only [nx]
  split
  · exact ⟨Int.le_refl _, h⟩
  · rename_i hb
    simp only [Bool.or_eq_true, decide_eq_true_eq, not_or] at hb
    exact ⟨rdN_nn _ _ _ (Int.le_refl _), by omega⟩
theorem nx_bad (s : List UInt8) (most : Int) (st : RSE) (h : (nx s most st).2.bad = false) : st.bad = false := by
  simp only [nx, Bool.or_eq_false_iff] at h; exact h.1
/-- the text from here on is that of these numbers -/
def AtN (s : List UInt8) (st : RSE) (ns : List Int) : Prop := st.bad = false ∧ s.drop st.p = txt ns
theorem nx_good {s : List UInt8} {most : Int} {st : RSE} {m : Int} {ns : List Int} (h : AtN s st (m :: ns)) (h0 : 0 ≤ m) (h1 : m ≤ most) : (nx s most st).1 = m ∧ AtN s (nx s most st).2 ns := by
  obtain ⟨u, rfl⟩ := Int.eq_ofNat_of_zero_le h0
  obtain ⟨hb, hd⟩ := h
  have e1 : Lib.itoa ((u : Nat) : Int) = Lib.decDigits u := Lib.itoa_nonneg u
  simp only [txt, numT, e1, List.append_assoc, List.singleton_append] at hd
  have hq : rdN most (s.drop st.p) 0 = ((u : Int), (Lib.decDigits u).length) := by
    rw [hd, rdN_append most _ _ 0 _ (rdN_dec most u h1)]
    have : rdN most (32 :: txt ns) (u : Int) = ((u : Int), 0) := by
      simp only [rdN]; rw [if_neg (by rintro ⟨hc, _⟩; exact absurd hc (by decide))]
    rw [this]; simp
  have hlen : 1 ≤ (Lib.decDigits u).length := by rw [Lib.decDigits_length]; exact Lib.nDigits_pos u
  have hat : ∀ i, s[st.p + i]? = (s.drop st.p)[i]? := fun i => by rw [List.getElem?_drop]
  have he : endAt s (st.p + (Lib.decDigits u).length) = true := by
    unfold endAt
    rw [hat, hd, List.getElem?_append_right (Nat.le_refl _)]
    simp
  have hrest : s.drop (st.p + (Lib.decDigits u).length + 1) = txt ns := by
    rw [Nat.add_assoc, ← List.drop_drop, hd, ← List.drop_drop, List.drop_left]
    rfl
  have hbf : (st.bad || (decide ((Lib.decDigits u).length < 1) || (decide (most < (u : Int)) || !true))) = false := by
    rw [hb]; simp only [Bool.false_or, Bool.not_true, Bool.or_false, Bool.or_eq_false_iff, decide_eq_false_iff_not]; omega
  simp only [nx, AtN, hq, he, hbf, if_true]
  exact ⟨by simp, trivial, hrest⟩
end Go.Proofs.YtohjjgefklhmaaaGreatDoor

namespace Go.Proofs.YtohjjgefklhmaaaGreatDoor
open Go.ChangeShapes Go.WideShapes Go.ChangeAt Go.RowKit
set_option linter.unusedVariables false

/-! ### two engines that answer alike -/
theorem gd_self {l : List Int} {i : Nat} {y : Int} (h : i < l.length) : (l.set i y).getD i 0 = y := by simp [List.getD, h]
theorem gd_ne {l : List Int} {i n : Nat} {y : Int} (h : i ≠ n) : (l.set i y).getD n 0 = l.getD n 0 := by
  simp only [List.getD]; rw [List.getElem?_set_ne h]
/-- the same shares, and the same is pending where there are shares -/
structure ST (a b : List Int) : Prop where
  la : a.length = 65
  lb : b.length = 65
  sh : ∀ i, i < 30 → b.getD i 0 = a.getD i 0
  pd : ∀ k j, k < 6 → j < 5 → a.getD (k * 5 + j) 0 ≠ 0 → b.getD (30 + j) 0 - b.getD (35 + (k * 5 + j)) 0 = a.getD (30 + j) 0 - a.getD (35 + (k * 5 + j)) 0
theorem ST.pay {a b : List Int} (h : ST a b) (k j : Nat) (hk : k < 6) (hj : j < 5) : ST (a.set (35 + (k * 5 + j)) (a.getD (30 + j) 0)) (b.set (35 + (k * 5 + j)) (b.getD (30 + j) 0)) := by
  obtain ⟨la, lb, hs, hp⟩ := h
  refine ⟨by simpa using la, by simpa using lb, fun i hi => ?_, fun k' j' h1 h2 h3 => ?_⟩
  · rw [gd_ne (by omega), gd_ne (by omega)]; exact hs i hi
  · rw [gd_ne (by omega)] at h3
    rw [gd_ne (n := 30 + j') (by omega), gd_ne (l := a) (n := 30 + j') (by omega)]
    by_cases e : k' * 5 + j' = k * 5 + j
    · have ej : j' = j := by omega
      subst ej
      rw [e, gd_self (by omega), gd_self (by omega)]; omega
    · rw [gd_ne (by omega), gd_ne (by omega)]; exact hp k' j' h1 h2 h3
/-- shares of one who was just paid -/
theorem ST.share {a b : List Int} (h : ST a b) (k j : Nat) (s : Int) (hk : k < 6) (hj : j < 5) : ST ((a.set (35 + (k * 5 + j)) (a.getD (30 + j) 0)).set (k * 5 + j) s) ((b.set (35 + (k * 5 + j)) (b.getD (30 + j) 0)).set (k * 5 + j) s) := by
  obtain ⟨la, lb, hs, hp⟩ := h.pay k j hk hj
  have la' := h.la
  have lb' := h.lb
  refine ⟨by simpa using la, by simpa using lb, fun i hi => ?_, fun k' j' h1 h2 h3 => ?_⟩
  · by_cases e : i = k * 5 + j
    · rw [e, gd_self (by simp only [List.length_set]; omega), gd_self (by simp only [List.length_set]; omega)]
    · rw [gd_ne (i := k * 5 + j) (n := i) (by omega), gd_ne (i := k * 5 + j) (n := i) (by omega)]; exact hs i hi
  · rw [gd_ne (i := k * 5 + j) (n := 30 + j') (by omega), gd_ne (i := k * 5 + j) (n := 35 + (k' * 5 + j')) (by omega), gd_ne (i := k * 5 + j) (n := 30 + j') (by omega), gd_ne (i := k * 5 + j) (n := 35 + (k' * 5 + j')) (by omega)]
    by_cases e : k' * 5 + j' = k * 5 + j
    · have ej : j' = j := by omega
      subst ej
      rw [gd_ne (n := 30 + j') (by omega), gd_ne (l := a) (n := 30 + j') (by omega), e, gd_self (by omega), gd_self (by omega)]; omega
    · rw [gd_ne (i := k * 5 + j) (by omega)] at h3
      exact hp k' j' h1 h2 h3
theorem ST.per {a b : List Int} (h : ST a b) (j : Nat) (q : Int) (hj : j < 5) : ST (a.set (30 + j) (a.getD (30 + j) 0 + q)) (b.set (30 + j) (b.getD (30 + j) 0 + q)) := by
  obtain ⟨la, lb, hs, hp⟩ := h
  refine ⟨by simpa using la, by simpa using lb, fun i hi => ?_, fun k' j' h1 h2 h3 => ?_⟩
  · rw [gd_ne (by omega), gd_ne (by omega)]; exact hs i hi
  · rw [gd_ne (by omega)] at h3
    have := hp k' j' h1 h2 h3
    rw [gd_ne (n := 35 + (k' * 5 + j')) (by omega), gd_ne (l := a) (n := 35 + (k' * 5 + j')) (by omega)]
    by_cases e : j' = j
    · subst e; rw [gd_self (by omega), gd_self (by omega)]; omega
    · rw [gd_ne (by omega), gd_ne (by omega)]; exact this
def Sim (x y : EC) : Prop := ∃ t, y = { x with tab := t } ∧ ST x.tab t
theorem Sim.refl' {x y : EC} (h : Sim x y) : y.bal = x.bal ∧ y.vals = x.vals ∧ y.ents = x.ents ∧ y.height = x.height ∧ y.fees = x.fees ∧ y.pool = x.pool ∧ y.top = x.top ∧ y.mature = x.mature ∧ y.fee = x.fee := by
  obtain ⟨t, rfl, _⟩ := h; exact ⟨rfl, rfl, rfl, rfl, rfl, rfl, rfl, rfl, rfl⟩
theorem Sim.sh {x y : EC} (h : Sim x y) {k j : Nat} (hk : k < 6) (hj : j < 5) : y.sh k j = x.sh k j := by
  obtain ⟨t, rfl, st⟩ := h; exact st.sh _ (by omega)
theorem ST.due {x : EC} {t : List Int} (st : ST x.tab t) {k j : Nat} (hk : k < 6) (hj : j < 5) : EC.due { x with tab := t } k j = x.due k j := by
  have h1 := st.sh (k * 5 + j) (by omega)
  have h2 := st.pd k j hk hj
  show t.getD (k * 5 + j) 0 * (t.getD (30 + j) 0 - t.getD (35 + (k * 5 + j)) 0) / 1073741824 = x.tab.getD (k * 5 + j) 0 * (x.tab.getD (30 + j) 0 - x.tab.getD (35 + (k * 5 + j)) 0) / 1073741824
  rw [h1]
  by_cases e : x.tab.getD (k * 5 + j) 0 = 0
  · rw [e, Int.zero_mul, Int.zero_mul]
  · rw [h2 e]
theorem Sim.due {x y : EC} (h : Sim x y) {k j : Nat} (hk : k < 6) (hj : j < 5) : y.due k j = x.due k j := by
  obtain ⟨t, rfl, st⟩ := h; exact st.due hk hj
theorem Sim.charge {x y : EC} (h : Sim x y) (k : Nat) : Sim (chargeFE x k) (chargeFE y k) := by
  obtain ⟨t, rfl, st⟩ := h; exact ⟨t, rfl, st⟩
theorem Sim.bal {x y : EC} (h : Sim x y) (b : List Int) : Sim { x with bal := b } { y with bal := b } := by
  obtain ⟨t, rfl, st⟩ := h; exact ⟨t, rfl, st⟩
theorem Sim.pay {x y : EC} (h : Sim x y) {k j : Nat} (hk : k < 6) (hj : j < 5) : Sim (payF x k j) (payF y k j) := by
  obtain ⟨t, rfl, st⟩ := h
  refine ⟨t.set (35 + (k * 5 + j)) (t.getD (30 + j) 0), ?_, st.pay k j hk hj⟩
  unfold payF; rw [st.due hk hj]; rfl
theorem Sim.join {x y : EC} (h : Sim x y) {k j : Nat} (hk : k < 6) (hj : j < 5) (a : Int) : Sim (joinFE x k j a) (joinFE y k j a) := by
  obtain ⟨t, rfl, st⟩ := h
  have es : EC.sh { x with tab := t } k j = x.sh k j := st.sh _ (by omega)
  refine ⟨(t.set (35 + (k * 5 + j)) (t.getD (30 + j) 0)).set (k * 5 + j) (x.sh k j + sharesForF (x.val j) a), ?_, st.share k j _ hk hj⟩
  unfold joinFE payF; rw [st.due hk hj, es]; rfl
theorem Sim.paygone {x y : EC} (h : Sim x y) {k j : Nat} (hk : k < 6) (hj : j < 5) (n a : Int) : Sim (goneF (payF x k j) k j n a) (goneF (payF y k j) k j n a) := by
  obtain ⟨t, rfl, st⟩ := h
  have lb := st.lb
  have la := st.la
  have es : EC.sh (payF { x with tab := t } k j) k j = x.sh k j := by
    show (t.set (35 + (k * 5 + j)) (t.getD (30 + j) 0)).getD (k * 5 + j) 0 = _
    rw [gd_ne (by omega)]; exact st.sh _ (by omega)
  have es' : EC.sh (payF x k j) k j = x.sh k j := by
    show (x.tab.set (35 + (k * 5 + j)) (x.tab.getD (30 + j) 0)).getD (k * 5 + j) 0 = _
    rw [gd_ne (by omega)]; rfl
  refine ⟨(t.set (35 + (k * 5 + j)) (t.getD (30 + j) 0)).set (k * 5 + j) (x.sh k j - n), ?_, ?_⟩
  · unfold goneF; rw [es, es']; unfold payF; rw [st.due hk hj]; rfl
  · have := st.share k j (x.sh k j - n) hk hj
    unfold goneF; rw [es']; exact this
theorem Sim.clear {x y : EC} (h : Sim x y) (j : Nat) : Sim (clearF x j) (clearF y j) := by
  obtain ⟨t, rfl, st⟩ := h; exact ⟨t, rfl, st⟩
theorem Sim.val {x y : EC} (h : Sim x y) (j : Nat) : y.val j = x.val j := by obtain ⟨t, rfl, st⟩ := h; rfl
theorem Sim.leave {x y : EC} (h : Sim x y) {k j : Nat} (hk : k < 6) (hj : j < 5) (n : Int) : Sim (leaveF x k j n) (leaveF y k j n) := by
  have e := h.val j
  unfold leaveF
  rw [e]
  split
  · exact (h.paygone hk hj n _).clear j
  · exact h.paygone hk hj n _
theorem Sim.ent {x y : EC} (h : Sim x y) (k j : Nat) (a : Int) : Sim (entF x k j a) (entF y k j a) := by
  obtain ⟨t, rfl, st⟩ := h
  unfold entF
  split
  · exact ⟨t, rfl, st⟩
  · exact ⟨t, rfl, st⟩
theorem Sim.unb {x y : EC} (h : Sim x y) {k j : Nat} (hk : k < 6) (hj : j < 5) (n : Int) : Sim (unbF x k j n) (unbF y k j n) := by
  unfold unbF; rw [h.val j]; exact (h.leave hk hj n).ent _ _ _
theorem Sim.mov {x y : EC} (h : Sim x y) {k j i : Nat} (hk : k < 6) (hj : j < 5) (hi : i < 5) (n : Int) : Sim (movF x k j i n) (movF y k j i n) := by
  unfold movF; rw [h.val j]; exact (h.leave hk hj n).join hk hi _
theorem Sim.coll {x y : EC} (h : Sim x y) (k j : Nat) : Sim (collF x k j) (collF y k j) := by
  obtain ⟨t, rfl, st⟩ := h; exact ⟨t, rfl, st⟩
theorem slLoop_tab (x : EC) (t : List Int) (j : Nat) (hgt p : Int) (k : Nat) : slLoop { x with tab := t } j hgt p k = slLoop x j hgt p k := by
  induction k with
  | zero => rfl
  | succ k ih => simp only [slLoop, ih]
theorem Sim.slash {x y : EC} (h : Sim x y) (j : Nat) (hgt p : Int) : Sim (slashF x j hgt p) (slashF y j hgt p) := by
  obtain ⟨t, rfl, st⟩ := h
  have e : slTokF { x with tab := t } j p = { slTokF x j p with tab := t } := rfl
  refine ⟨t, ?_, st⟩
  unfold slashF slEntF
  rw [e, slLoop_tab]; rfl
theorem Sim.out {x y : EC} (h : Sim x y) (j : Nat) : Sim (outF x j) (outF y j) := by
  obtain ⟨t, rfl, st⟩ := h; exact ⟨t, rfl, st⟩
theorem Sim.take {x y : EC} (h : Sim x y) {j : Nat} (hj : j < 5) (a : Int) : Sim (takeF x j a) (takeF y j a) := by
  obtain ⟨t, rfl, st⟩ := h
  unfold takeF shareOutF
  split
  · rename_i hs
    exact ⟨t, if_pos hs, st⟩
  · rename_i hs
    refine ⟨_, if_neg hs, st.per j _ hj⟩
theorem Sim.loop {x y : EC} (h : Sim x y) (f b : Int) (k : Nat) (hk : k ≤ 5) : Sim (shLoop x f b k).1 (shLoop y f b k).1 ∧ (shLoop y f b k).2 = (shLoop x f b k).2 := by
  induction k with
  | zero => exact ⟨h, rfl⟩
  | succ k ih =>
    obtain ⟨i1, i2⟩ := ih (by omega)
    have ev := i1.val k
    have ep : partF (shLoop y f b k).1 f b k = partF (shLoop x f b k).1 f b k := by unfold partF; rw [ev]
    simp only [shLoop]
    rw [ev, ep, i2]
    split
    · exact ⟨i1.take (by omega) _, rfl⟩
    · exact ⟨i1, i2⟩
theorem Sim.share {x y : EC} (h : Sim x y) (hv : x.vals.length ≤ 5) : Sim (shareF x) (shareF y) := by
  obtain ⟨h1, h2⟩ := h.loop x.fees (bondedN x.vals) x.vals.length hv
  obtain ⟨eb, ev, ee, eh, ef, ep, _⟩ := h.refl'
  unfold shareF
  rw [ev, ef, ep, h2]
  obtain ⟨t, et, st⟩ := h1
  exact ⟨t, by rw [et], st⟩
theorem Sim.up {x y : EC} (h : Sim x y) (hv : x.vals.length ≤ 5) : Sim (upF x) (upF y) := by
  have e := h.refl'.2.2.2.1
  obtain ⟨t, et, st⟩ := h.share hv
  unfold upF
  rw [e, et]
  exact ⟨t, rfl, st⟩
theorem peLoop_tab (x : EC) (t : List Int) (k : Nat) : peLoop { x with tab := t } k = peLoop x k := by
  induction k with
  | zero => rfl
  | succ k ih => simp only [peLoop, ih]
theorem Sim.payE {x y : EC} (h : Sim x y) : Sim (payEF x) (payEF y) := by
  obtain ⟨t, rfl, st⟩ := h
  refine ⟨t, ?_, st⟩
  unfold payEF
  rw [peLoop_tab]
theorem Sim.set {x y : EC} (h : Sim x y) : Sim (setF x) (setF y) := by
  obtain ⟨t, rfl, st⟩ := h; exact ⟨t, rfl, st⟩
/-- the same answer, and alike again -/
def SimR (p q : Int × EC) : Prop := q.1 = p.1 ∧ Sim p.2 q.2
theorem Sim.blk {x y : EC} (h : Sim x y) (hv : x.vals.length ≤ 5) : SimR (blkR x) (blkR y) := by
  have e := h.refl'.2.2.2.1
  unfold blkR
  rw [e]
  split
  · exact ⟨rfl, h⟩
  · exact ⟨rfl, ((h.up hv).payE).set⟩
theorem Sim.msg {x y : EC} (h : Sim x y) (b6 : x.bal.length ≤ 6) (who : Int) (err : EC → Nat → Int) (act : EC → Nat → EC) (he : ∀ x' y' k, Sim x' y' → k < 6 → x'.vals.length = x.vals.length → err y' k = err x' k) (ha : ∀ x' y' k, Sim x' y' → k < 6 → x'.vals.length = x.vals.length → err x' k = 0 → Sim (act x' k) (act y' k)) : SimR (msgR x who err act) (msgR y who err act) := by
  have ec : chErr y who = chErr x who := by obtain ⟨t, rfl, st⟩ := h; rfl
  have hc := h.charge who.toNat
  unfold msgR
  rw [ec]
  by_cases e0 : chErr x who = 0
  · have hk : who.toNat < 6 := by
      unfold chErr at e0
      by_cases hi : inB who x.bal.length = false
      · rw [if_pos hi] at e0; omega
      · simp only [inB, Bool.and_eq_false_iff, decide_eq_false_iff_not, not_or, Decidable.not_not] at hi
        omega
    have e2 := he _ _ _ hc hk rfl
    have n0 : ¬ chErr x who ≠ 0 := fun h => h e0
    rw [if_neg n0, if_neg n0, e2]
    by_cases e1 : err (chargeFE x who.toNat) who.toNat = 0
    · have n1 : ¬ err (chargeFE x who.toNat) who.toNat ≠ 0 := fun h => h e1
      rw [if_neg n1, if_neg n1]
      exact ⟨rfl, ha _ _ _ hc hk rfl e1⟩
    · rw [if_pos e1, if_pos e1]; exact ⟨rfl, hc⟩
  · rw [if_pos e0, if_pos e0]; exact ⟨rfl, h⟩
theorem inB_lt {a : Int} {n : Nat} (h : ¬ inB a n = false) : a.toNat < n := by
  simp only [inB, Bool.and_eq_false_iff, decide_eq_false_iff_not, not_or, Decidable.not_not] at h; omega
theorem Sim.does {x y : EC} (h : Sim x y) (b6 : x.bal.length ≤ 6) (v5 : x.vals.length ≤ 5) (k a b c d : Int) : SimR (doesR x k a b c d) (doesR y k a b c d) := by
  have esh : ∀ {x y : EC} {k : Nat} {j : Int}, Sim x y → k < 6 → x.vals.length ≤ 5 → ¬ inB j x.vals.length = false → y.sh k j.toNat = x.sh k j.toNat := fun h hk hv hj => h.sh hk (by have := inB_lt hj; omega)
  unfold doesR
  split
  · refine h.msg b6 _ _ _ (fun x y k h _ _ => ?_) (fun x y k h _ _ _ => ?_)
    · obtain ⟨t, rfl, st⟩ := h; rfl
    · obtain ⟨t, rfl, st⟩ := h; exact ⟨t, rfl, st⟩
  split
  · obtain ⟨t, rfl, st⟩ := h
    unfold spendR
    by_cases e : transR x.bal.length x.pool a b = 0
    · rw [if_neg (by omega)]
      have : ¬ transR ({ x with tab := t } : EC).bal.length ({ x with tab := t } : EC).pool a b ≠ 0 := fun hh => hh e
      rw [if_neg this]
      exact ⟨rfl, t, rfl, st⟩
    · rw [if_pos e]
      have : transR ({ x with tab := t } : EC).bal.length ({ x with tab := t } : EC).pool a b ≠ 0 := e
      rw [if_pos this]
      exact ⟨rfl, t, rfl, st⟩
  split
  · refine h.msg b6 _ _ _ (fun x y k h _ _ => ?_) (fun x y k h hk hv he => ?_)
    · obtain ⟨t, rfl, st⟩ := h; rfl
    · have e1 := h.refl'.1
      have e2 : y.balAt k = x.balAt k := by unfold EC.balAt; rw [e1]
      rw [e1, e2]
      refine (h.bal _).join hk ?_ c
      by_cases hi : inB b x.vals.length = false
      · unfold bondErrF at he; rw [if_pos hi] at he; omega
      · have := inB_lt hi; omega
  split
  · refine h.msg b6 _ _ _ (fun x y k h hk hv => ?_) (fun x y k h hk hv he => ?_)
    · unfold unbErrF
      rw [h.refl'.2.1]
      by_cases hi : inB b x.vals.length = false
      · rw [if_pos hi, if_pos hi]
      · rw [if_neg hi, if_neg hi, esh h hk (by omega) hi, h.refl'.2.2.1]
    · refine h.unb hk ?_ c
      by_cases hi : inB b x.vals.length = false
      · unfold unbErrF at he; rw [if_pos hi] at he; omega
      · have := inB_lt hi; omega
  split
  · refine h.msg b6 _ _ _ (fun x y k h hk hv => ?_) (fun x y k h hk hv he => ?_)
    · unfold movErrF
      rw [h.refl'.2.1]
      by_cases hi : inB b x.vals.length = false
      · rw [if_pos hi, if_pos hi]
      · rw [if_neg hi, if_neg hi, esh h hk (by omega) hi, h.val, h.val]
    · unfold movErrF at he
      by_cases hi : inB b x.vals.length = false
      · rw [if_pos hi] at he; omega
      · rw [if_neg hi] at he
        by_cases hi2 : inB c x.vals.length = false
        · rw [if_pos (.inl hi2)] at he; omega
        · have := inB_lt hi; have := inB_lt hi2
          exact h.mov hk (by omega) (by omega) d
  split
  · refine h.msg b6 _ _ _ (fun x y k h hk hv => ?_) (fun x y k h hk hv he => ?_)
    · unfold dueErrF
      rw [h.refl'.2.1]
      by_cases hi : inB b x.vals.length = false
      · rw [if_pos hi, if_pos hi]
      · rw [if_neg hi, if_neg hi, esh h hk (by omega) hi]
    · refine h.pay hk ?_
      by_cases hi : inB b x.vals.length = false
      · unfold dueErrF at he; rw [if_pos hi] at he; omega
      · have := inB_lt hi; omega
  split
  · refine h.msg b6 _ _ _ (fun x y k h _ _ => ?_) (fun x y k h _ _ _ => h.coll _ _)
    obtain ⟨t, rfl, st⟩ := h; rfl
  split
  · have hs := h.slash a.toNat b c
    obtain ⟨t, rfl, st⟩ := h
    unfold slashR
    by_cases e : slErrF x a b c = 0
    · rw [if_neg (by omega)]
      have : ¬ slErrF ({ x with tab := t } : EC) a b c ≠ 0 := fun hh => hh e
      rw [if_neg this]
      exact ⟨rfl, hs⟩
    · rw [if_pos e]
      have : slErrF ({ x with tab := t } : EC) a b c ≠ 0 := e
      rw [if_pos this]
      exact ⟨rfl, t, rfl, st⟩
  split
  · refine h.msg b6 _ _ _ (fun x y k h _ _ => ?_) (fun x y k h _ _ _ => h.out _)
    obtain ⟨t, rfl, st⟩ := h; rfl
  · exact h.blk v5
end Go.Proofs.YtohjjgefklhmaaaGreatDoor

namespace Go.Proofs.YtohjjgefklhmaaaGreatDoor
open Go.ChangeShapes Go.WideShapes Go.ChangeAt Go.RowKit
set_option linter.unusedVariables false

/-! ### entries: in order, not yet past, four of a kind at most -/
def keyE (e : ES) : Int × Int × Int := (e.who, e.val, e.made)
theorem countE_P (l : List ES) (a b : Int) : countE l a b = ((l.countP (fun e => decide (e.who = a ∧ e.val = b)) : Nat) : Int) := by
  have key : ∀ (l : List ES) (n : Int), l.foldl (fun n e => if e.who = a ∧ e.val = b then n + 1 else n) n = n + ((l.countP (fun e => decide (e.who = a ∧ e.val = b)) : Nat) : Int) := by
    intro l
    induction l with
    | nil => intro n; simp
    | cons e l ih =>
      intro n
      simp only [List.foldl_cons, List.countP_cons, ih]
      by_cases he : e.who = a ∧ e.val = b
      · rw [if_pos he]; simp only [he, and_self, decide_true, if_true]; omega
      · rw [if_neg he]; simp only [he, decide_false]; simp
  unfold countE; rw [key]; omega
structure EntI (nv : Nat) (h m : Int) (l : List ES) : Prop where
  vl : ∀ e, e ∈ l → ∃ j : Nat, e.val = j ∧ j < nv
  so : l.Pairwise (fun a b => a.made ≤ b.made)
  lv : ∀ e, e ∈ l → h < e.made + m
  le : ∀ e, e ∈ l → e.made ≤ h
  ct : ∀ a b, countE l a b ≤ 4
theorem EntI.sub {nv : Nat} {h m : Int} {l l' : List ES} (i : EntI nv h m l) (s : List.Sublist l' l) : EntI nv h m l' :=
  ⟨fun e he => i.vl e (s.subset he), i.so.sublist s, fun e he => i.lv e (s.subset he), fun e he => i.le e (s.subset he), fun a b => by
    have := i.ct a b
    rw [countE_P] at this ⊢
    have := s.countP_le (p := fun e => decide (e.who = a ∧ e.val = b))
    omega⟩
theorem EntI.key {nv : Nat} {h m : Int} {l l' : List ES} (i : EntI nv h m l) (k : l'.map keyE = l.map keyE) : EntI nv h m l' := by
  have hm : ∀ e, e ∈ l' → ∃ d, d ∈ l ∧ d.who = e.who ∧ d.val = e.val ∧ d.made = e.made := by
    intro e he
    have : keyE e ∈ l.map keyE := by rw [← k]; exact List.mem_map_of_mem he
    obtain ⟨d, hd, hk⟩ := List.mem_map.1 this
    simp only [keyE, Prod.mk.injEq] at hk
    exact ⟨d, hd, hk.1, hk.2.1, hk.2.2⟩
  refine ⟨fun e he => ?_, ?_, fun e he => ?_, fun e he => ?_, fun a b => ?_⟩
  · obtain ⟨d, hd, _, h2, _⟩ := hm e he; rw [← h2]; exact i.vl d hd
  · have h1 : (l.map keyE).Pairwise (fun a b => a.2.2 ≤ b.2.2) := List.pairwise_map.2 i.so
    rw [← k] at h1
    exact (List.pairwise_map (f := keyE) (R := fun a b => a.2.2 ≤ b.2.2)).1 h1
  · obtain ⟨d, hd, _, _, h3⟩ := hm e he; rw [← h3]; exact i.lv d hd
  · obtain ⟨d, hd, _, _, h3⟩ := hm e he; rw [← h3]; exact i.le d hd
  · have e1 : ∀ l : List ES, l.countP (fun e => decide (e.who = a ∧ e.val = b)) = (l.map keyE).countP (fun q => decide (q.1 = a ∧ q.2.1 = b)) := fun l => by rw [List.countP_map]; rfl
    have := i.ct a b
    rw [countE_P, e1] at this ⊢
    rw [k]; exact this
theorem EntI.add {nv : Nat} {h m : Int} {l : List ES} (i : EntI nv h m l) (k j : Nat) (t : Int) (hj : j < nv) (hm : 1 ≤ m) (hc : countE l k j < 4) : EntI nv h m (l ++ [⟨k, j, h, t⟩]) := by
  have hm' : ∀ e, e ∈ l ++ [(⟨k, j, h, t⟩ : ES)] → e ∈ l ∨ e = ⟨k, j, h, t⟩ := fun e he => by simpa using he
  refine ⟨fun e he => ?_, ?_, fun e he => ?_, fun e he => ?_, fun a b => ?_⟩
  · rcases hm' e he with he | rfl
    · exact i.vl e he
    · exact ⟨j, rfl, hj⟩
  · rw [List.pairwise_append]
    refine ⟨i.so, by simp, fun a ha b hb => ?_⟩
    simp only [List.mem_singleton] at hb
    subst hb
    exact i.le a ha
  · rcases hm' e he with he | rfl
    · exact i.lv e he
    · simp only; omega
  · rcases hm' e he with he | rfl
    · exact i.le e he
    · exact Int.le_refl _
  · have h1 := i.ct a b
    rw [countE_P] at h1 hc ⊢
    rw [List.countP_append, List.countP_singleton]
    by_cases e : (k : Int) = a ∧ (j : Int) = b
    · obtain ⟨rfl, rfl⟩ := e
      simp only [and_self, decide_true, if_true]; omega
    · have e' : decide ((⟨k, j, h, t⟩ : ES).who = a ∧ (⟨k, j, h, t⟩ : ES).val = b) = false := decide_eq_false e
      rw [e', if_neg (by simp)]; omega
theorem peLoop_sub (x : EC) (k : Nat) (hk : k ≤ x.ents.length) : List.Sublist (peLoop x k).2 (x.ents.take k) ∧ ∀ e, e ∈ (peLoop x k).2 → e.made + x.mature ≠ x.height := by
  induction k with
  | zero => exact ⟨by simp [peLoop], by simp [peLoop]⟩
  | succ k ih =>
    obtain ⟨i1, i2⟩ := ih (by omega)
    have hlt : k < x.ents.length := by omega
    have ed : x.ents.getD k e0 = x.ents[k] := by simp [hlt]
    have et : x.ents.take (k + 1) = x.ents.take k ++ [x.ents[k]] := by rw [List.take_succ_eq_append_getElem hlt]
    simp only [peLoop]
    rw [ed]
    split
    · rw [et]
      exact ⟨i1.trans (List.sublist_append_left _ _), i2⟩
    · rename_i hne
      rw [et]
      refine ⟨List.Sublist.append i1 (List.Sublist.refl _), fun e he => ?_⟩
      simp only [List.mem_append, List.mem_singleton] at he
      rcases he with he | rfl
      · exact i2 e he
      · exact hne
theorem EntI.paid {x : EC} {nv : Nat} {h : Int} (i : EntI nv h x.mature x.ents) (hh : x.height = h + 1) : EntI nv (h + 1) x.mature (payEF x).ents := by
  obtain ⟨s1, s2⟩ := peLoop_sub x x.ents.length (Nat.le_refl _)
  rw [List.take_length] at s1
  have j := i.sub s1
  refine ⟨j.vl, j.so, fun e he => ?_, fun e he => ?_, j.ct⟩
  · have := j.lv e he
    have := s2 e he
    omega
  · have := j.le e he
    omega
theorem slLoop_key (x : EC) (j : Nat) (hgt p : Int) (k : Nat) : (slLoop x j hgt p k).2.map keyE = x.ents.map keyE ∧ (slLoop x j hgt p k).2.length = x.ents.length := by
  induction k with
  | zero => exact ⟨rfl, rfl⟩
  | succ k ih =>
    simp only [slLoop]
    split
    · refine ⟨?_, by simpa using ih.2⟩
      simp only
      rw [List.map_set, ih.1]
      apply List.ext_getElem?
      intro i
      by_cases e : k = i
      · subst e
        by_cases hk : k < x.ents.length
        · simp [hk, keyE, cutE]
        · rw [List.getElem?_eq_none (by simp; omega), List.getElem?_eq_none (by simp; omega)]
      · rw [List.getElem?_set_ne e]
    · exact ih

/-! ### what holds besides, of an engine -/
structure InvE (x : EC) : Prop where
  b1 : 1 ≤ x.bal.length
  v1 : 1 ≤ x.vals.length
  ow : ∀ o : Int, o ∈ x.vals.map (fun v => v.owner) → ∃ i : Nat, o = (i : Int) ∧ i < x.bal.length
  sv : ∀ k j, x.vals.length ≤ j → k < 6 → j < 5 → x.sh k j = 0
  en : EntI x.vals.length x.height x.mature x.ents
structure KeepO (x x' : EC) : Prop where
  bl : x'.bal.length = x.bal.length
  ow : x'.vals.map (fun v => v.owner) = x.vals.map (fun v => v.owner)
  sv : ∀ k j, x.vals.length ≤ j → k < 6 → j < 5 → x'.sh k j = x.sh k j
  hg : x'.height = x.height
  ma : x'.mature = x.mature
  en : x'.ents.map keyE = x.ents.map keyE
theorem KeepO.vl {x x' : EC} (h : KeepO x x') : x'.vals.length = x.vals.length := by
  have := congrArg List.length h.ow; simpa using this
theorem KeepO.refl (x : EC) : KeepO x x := ⟨rfl, rfl, fun _ _ _ _ _ => rfl, rfl, rfl, rfl⟩
theorem KeepO.trans {x y z : EC} (h : KeepO x y) (h' : KeepO y z) : KeepO x z :=
  ⟨h'.bl.trans h.bl, h'.ow.trans h.ow, fun k j a b c => (h'.sv k j (by rw [h.vl]; exact a) b c).trans (h.sv k j a b c), h'.hg.trans h.hg, h'.ma.trans h.ma, h'.en.trans h.en⟩
theorem InvE.keep {x x' : EC} (h : InvE x) (k : KeepO x x') : InvE x' :=
  ⟨by rw [k.bl]; exact h.b1, by rw [k.vl]; exact h.v1, by rw [k.ow, k.bl]; exact h.ow, fun a b c d e => by rw [k.vl] at c; rw [k.sv a b c d e]; exact h.sv a b c d e, by rw [k.vl, k.hg, k.ma]; exact h.en.key k.en⟩
theorem own_mod (l : List VS) (j : Nat) (g : VS → VS) (h : ∀ v, (g v).owner = v.owner) : (l.modify j g).map (fun v => v.owner) = l.map (fun v => v.owner) := by
  apply List.ext_getElem?
  intro i
  simp only [List.getElem?_map, List.getElem?_modify]
  by_cases e : j = i
  · subst e; cases l[j]? with
    | none => rfl
    | some v => simp [h]
  · simp [e]
theorem own_off (l : List VS) (k : Nat) : (offL l k).map (fun v => v.owner) = l.map (fun v => v.owner) := by
  induction k with
  | zero => rfl
  | succ k ih => simp only [offL]; refine (own_mod _ _ _ ?_).trans ih; intro v; rfl
theorem own_chooseL (n : Nat) : ∀ l : List VS, (chooseL n l).map (fun v => v.owner) = l.map (fun v => v.owner) := by
  induction n with
  | zero => intro l; rfl
  | succ n ih =>
    intro l
    simp only [chooseL]
    split
    · rfl
    · rw [ih]; exact own_mod _ _ _ (fun _ => rfl)
theorem own_choose (l : List VS) (t : Int) : (chooseF l t).map (fun v => v.owner) = l.map (fun v => v.owner) := by
  unfold chooseF; rw [own_chooseL, own_off]
theorem KeepO.charge (x : EC) (k : Nat) : KeepO x (chargeFE x k) := ⟨by simp [chargeFE], rfl, fun _ _ _ _ _ => rfl, rfl, rfl, rfl⟩
theorem KeepO.pay (x : EC) (k j : Nat) : KeepO x (payF x k j) :=
  ⟨by simp [payF], own_mod _ _ _ (fun _ => rfl), fun k' j' _ h6 h5 => by simp only [payF, EC.sh]; exact getD_set_off (by omega), rfl, rfl, rfl⟩
theorem KeepO.join (x : EC) (k j : Nat) (t : Int) (hj : j < x.vals.length) (hv : x.vals.length ≤ 5) : KeepO x (joinFE x k j t) :=
  (KeepO.pay x k j).trans ⟨rfl, by simp only [joinFE]; refine (own_mod _ _ _ ?_).trans (own_mod _ _ _ ?_) <;> intro v <;> rfl, fun k' j' hj' h6 h5 => by
    have : x.vals.length ≤ j' := by rw [(KeepO.pay x k j).vl] at hj'; exact hj'
    simp only [joinFE, EC.sh]; exact getD_set_off (by omega), rfl, rfl, rfl⟩
theorem KeepO.gone (x : EC) (k j : Nat) (n t : Int) (hj : j < x.vals.length) (hv : x.vals.length ≤ 5) : KeepO x (goneF x k j n t) :=
  ⟨rfl, by simp only [goneF]; refine (own_mod _ _ _ ?_).trans (own_mod _ _ _ ?_) <;> intro v <;> rfl, fun k' j' hj' h6 h5 => by simp only [goneF, EC.sh]; exact getD_set_off (by omega), rfl, rfl, rfl⟩
theorem KeepO.clear (x : EC) (j : Nat) : KeepO x (clearF x j) := ⟨rfl, own_mod _ _ _ (fun _ => rfl), fun _ _ _ _ _ => rfl, rfl, rfl, rfl⟩
theorem KeepO.leave (x : EC) (k j : Nat) (n : Int) (hj : j < x.vals.length) (hv : x.vals.length ≤ 5) : KeepO x (leaveF x k j n) := by
  have hp := KeepO.pay x k j
  have h1 := hp.trans (KeepO.gone (payF x k j) k j n (tokensForF (x.val j) n) (by rw [hp.vl]; exact hj) (by rw [hp.vl]; exact hv))
  unfold leaveF
  split
  · exact h1.trans (KeepO.clear _ _)
  · exact h1
theorem KeepO.coll (x : EC) (k j : Nat) : KeepO x (collF x k j) :=
  ⟨by simp [collF], by simp only [collF]; refine (own_mod _ _ _ ?_).trans (own_mod _ _ _ ?_) <;> intro v <;> rfl, fun _ _ _ _ _ => rfl, rfl, rfl, rfl⟩
theorem KeepO.slash (x : EC) (j : Nat) (hgt p : Int) : KeepO x (slashF x j hgt p) :=
  ⟨rfl, by simp only [slashF, jailF, slEntF, slTokF]; refine (own_mod _ _ _ ?_).trans ((own_mod _ _ _ ?_).trans (own_mod _ _ _ ?_)) <;> intro v <;> rfl, fun _ _ _ _ _ => rfl, rfl, rfl, (slLoop_key (slTokF x j p) j hgt p _).1⟩
theorem KeepO.out (x : EC) (j : Nat) : KeepO x (outF x j) := ⟨rfl, own_mod _ _ _ (fun _ => rfl), fun _ _ _ _ _ => rfl, rfl, rfl, rfl⟩
theorem KeepO.take (x : EC) (j : Nat) (a : Int) : KeepO x (takeF x j a) := by
  have h1 : KeepO x { x with vals := (x.vals.modify j (fun v => { v with comm := v.comm + a * (x.val j).rate / 100 })).modify j (fun v => { v with outs := v.outs + a }) } :=
    ⟨rfl, by simp only; refine (own_mod _ _ _ ?_).trans (own_mod _ _ _ ?_) <;> intro v <;> rfl, fun _ _ _ _ _ => rfl, rfl, rfl, rfl⟩
  refine h1.trans ?_
  unfold takeF shareOutF
  split
  · exact KeepO.refl _
  · exact ⟨rfl, rfl, fun k' j' _ h6 h5 => by simp only [EC.sh]; exact getD_set_off (by omega), rfl, rfl, rfl⟩
theorem KeepO.loop (x : EC) (f b : Int) (k : Nat) : KeepO x (shLoop x f b k).1 := by
  induction k with
  | zero => exact KeepO.refl x
  | succ k ih =>
    simp only [shLoop]
    split
    · exact ih.trans (KeepO.take _ _ _)
    · exact ih
theorem InvE.block {x : EC} (h : InvE x) : InvE (blkR x).2 := by
  have k1 := KeepO.loop x x.fees (bondedN x.vals) x.vals.length
  unfold blkR
  split
  · exact h
  · have hs : KeepO x (shareF x) := k1.trans ⟨rfl, rfl, fun _ _ _ _ _ => rfl, rfl, rfl, rfl⟩
    have h1 := h.keep hs
    have hu : (upF x).height = x.height + 1 := rfl
    have hp := (show EntI (shareF x).vals.length x.height (upF x).mature (upF x).ents by have := h1.en; rw [hs.hg] at this; exact this).paid (x := upF x) hu
    have hl : (payEF (upF x)).bal.length = (shareF x).bal.length := peLoop_len _ _
    have ho : (setF (payEF (upF x))).vals.map (fun v => v.owner) = (shareF x).vals.map (fun v => v.owner) := own_choose _ _
    have hvl : (setF (payEF (upF x))).vals.length = (shareF x).vals.length := by have := congrArg List.length ho; simpa using this
    refine ⟨by show 1 ≤ (payEF (upF x)).bal.length; rw [hl]; exact h1.b1, by rw [hvl]; exact h1.v1, ?_, ?_, ?_⟩
    · show ∀ o : Int, o ∈ (setF (payEF (upF x))).vals.map (fun v => v.owner) → ∃ i : Nat, o = (i : Int) ∧ i < (payEF (upF x)).bal.length
      rw [ho, hl]; exact h1.ow
    · intro k j hj
      rw [hvl] at hj
      exact h1.sv k j hj
    · rw [hvl]; exact hp
theorem InvE.ent {x : EC} (h : InvE x) (k j : Nat) (t : Int) (hj : j < x.vals.length) (hm : 1 ≤ x.mature) (hc : countE x.ents k j < 4) : InvE (entF x k j t) := by
  unfold entF
  split
  · exact h
  · exact ⟨h.b1, h.v1, h.ow, h.sv, h.en.add k j t hj hm hc⟩
theorem InvE.does {x : EC} (h : InvE x) (ok : Fine x) (k a b c d : Int) : InvE (doesR x k a b c d).2 := by
  have okx : Ok x.height x := ok
  have v5 := okx.v5
  have hch : ∀ k : Nat, k < x.bal.length → InvE (chargeFE x k) := fun k _ => h.keep (KeepO.charge x k)
  have hvl : ∀ k : Nat, (chargeFE x k).vals.length = x.vals.length := fun k => rfl
  unfold doesR
  split
  · refine msgR_keep h hch (fun k hk he => (hch k hk).keep ⟨by simp [sentB], rfl, fun _ _ _ _ _ => rfl, rfl, rfl, rfl⟩)
  split
  · unfold spendR
    split
    · exact h
    · exact h.keep ⟨by simp, rfl, fun _ _ _ _ _ => rfl, rfl, rfl, rfl⟩
  split
  · refine msgR_keep h hch (fun k hk he => ?_)
    obtain ⟨j, rfl, hj, _⟩ := bondErrF_ok he
    have hkb : KeepO (chargeFE x k) { chargeFE x k with bal := (chargeFE x k).bal.set k ((chargeFE x k).balAt k - c) } := ⟨by simp, rfl, fun _ _ _ _ _ => rfl, rfl, rfl, rfl⟩
    refine (hch k hk).keep (hkb.trans (KeepO.join _ k _ c ?_ ?_))
    · rw [Int.toNat_natCast]; exact hj
    · exact v5
  split
  · refine msgR_keep h hch (fun k hk he => ?_)
    obtain ⟨j, rfl, hj, _, _, hc4⟩ := unbErrF_ok he
    have kl := KeepO.leave (chargeFE x k) k (Int.toNat (j : Int)) c (by rw [Int.toNat_natCast]; exact hj) v5
    have h2 := (hch k hk).keep kl
    show InvE (entF (leaveF (chargeFE x k) k (Int.toNat (j : Int)) c) k (Int.toNat (j : Int)) _)
    refine h2.ent k _ _ (by rw [kl.vl, Int.toNat_natCast]; exact hj) (by rw [kl.ma]; exact okx.mat0) ?_
    have e1 : ∀ l : List ES, ∀ a b, l.countP (fun e => decide (e.who = a ∧ e.val = b)) = (l.map keyE).countP (fun q => decide (q.1 = a ∧ q.2.1 = b)) := fun l a b => by rw [List.countP_map]; rfl
    rw [countE_P, e1] at hc4 ⊢
    rw [kl.en, Int.toNat_natCast]; exact hc4
  split
  · refine msgR_keep h hch (fun k hk he => ?_)
    obtain ⟨j, t, rfl, rfl, hj, ht, _⟩ := movErrF_ok he
    have k1 := KeepO.leave (chargeFE x k) k (Int.toNat (j : Int)) d (by rw [Int.toNat_natCast]; exact hj) v5
    refine (hch k hk).keep (k1.trans (KeepO.join _ k _ _ ?_ ?_))
    · rw [k1.vl, Int.toNat_natCast]; exact ht
    · rw [k1.vl]; exact v5
  split
  · exact msgR_keep h hch (fun k hk he => (hch k hk).keep (KeepO.pay _ _ _))
  split
  · exact msgR_keep h hch (fun k hk he => (hch k hk).keep (KeepO.coll _ _ _))
  split
  · unfold slashR
    split
    · exact h
    · exact h.keep (KeepO.slash _ _ _ _)
  split
  · exact msgR_keep h hch (fun k hk he => (hch k hk).keep (KeepO.out _ _))
  · exact h.block
end Go.Proofs.YtohjjgefklhmaaaGreatDoor
