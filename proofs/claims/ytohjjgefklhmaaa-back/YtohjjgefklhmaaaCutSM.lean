import Derived.Test.YtohjjgefklhmaaaGStepM
namespace Go.Proofs.Ytohjjgefklhmaaa
open Go.ChangeShapes Go.WideShapes Go.ChangeAt Go.RowKit
set_option linter.unusedVariables false

/-- the engine of Cut and Back: all is at the second validator, of the third account; nothing was ever due -/
structure QC (x : EC) (h f P : Int) (bal : List Int) (v : VS) (ents : List ES) (s : Int) : Prop where
  top : x.top = 2
  mat : x.mature = 3
  fee : x.fee = 90
  hh : x.height = h
  ff : x.fees = f
  pp : x.pool = P
  bl : x.bal = bal
  vs : x.vals = [⟨0, 5, 0, 0, 0, 0, false, false⟩, v]
  en : x.ents = ents
  tl : x.tab.length = 65
  sh : x.sh 2 1 = s
  per : x.per 1 = 0
  upt : x.upto 2 1 = 0
theorem x0_qc : QC (x0 5) 0 0 0 [200000, 200000, 200000, 200000] ⟨1, 0, 0, 0, 0, 0, false, false⟩ [] 0 :=
  ⟨rfl, rfl, rfl, rfl, rfl, rfl, rfl, rfl, rfl, rfl, rfl, rfl, rfl⟩
section
variable {x : EC} {h f P : Int} {bal : List Int} {v : VS} {ents : List ES} {s : Int}
theorem QC.val1 (q : QC x h f P bal v ents s) : x.val 1 = v := by simp [EC.val, q.vs]
theorem QC.val0 (q : QC x h f P bal v ents s) : x.val 0 = ⟨0, 5, 0, 0, 0, 0, false, false⟩ := by simp [EC.val, q.vs]
theorem QC.vl (q : QC x h f P bal v ents s) : x.vals.length = 2 := by rw [q.vs]; rfl
theorem QC.due0 (q : QC x h f P bal v ents s) : x.due 2 1 = 0 := by
  unfold EC.due; rw [q.per, q.upt]; simp
theorem QC.charge (q : QC x h f P bal v ents s) (k : Nat) : QC (chargeF x k) h (f + 90) P (bal.set k (bal.getD k 0 - 90)) v ents s :=
  ⟨q.top, q.mat, q.fee, q.hh, by simp only [chargeF]; rw [q.ff, q.fee], q.pp, by simp only [chargeF, EC.balAt]; rw [q.bl, q.fee], q.vs, q.en, q.tl, q.sh, q.per, q.upt⟩
theorem QC.paid (q : QC x h f P bal v ents s) (k : Nat) (hk : k < bal.length) (hb : 90 ≤ bal.getD k 0) : chErr x k = 0 := by
  unfold chErr
  rw [q.bl, if_neg, Int.toNat_natCast]
  · unfold EC.balAt
    rw [q.bl, q.fee, if_neg (by omega)]
  · rw [inB_ok (by omega) (by omega)]; decide
/-- a bond where there was nothing -/
theorem QC.bond {t : Int} {jl is : Bool} (q : QC x h f P bal ⟨1, 0, 0, 0, 0, 0, jl, is⟩ ents 0) (hb : bal.length = 4) (m : Int) (m1 : 1 ≤ m) (m2 : m ≤ 1000000) (hm : m + 90 ≤ bal.getD 2 0) :
    (bondR x 2 1 m).1 = 0 ∧ QC (bondR x 2 1 m).2 h (f + 90) P (bal.set 2 (bal.getD 2 0 - 90 - m)) ⟨1, 0, m, m, 0, 0, jl, is⟩ ents m := by
  have hc : chErr x ((2 : Nat) : Int) = 0 := q.paid 2 (by omega) (by omega)
  have qc := q.charge 2
  have hbc : (chargeF x 2).balAt 2 = bal.getD 2 0 - 90 := by
    unfold EC.balAt; rw [qc.bl, getD_set_self (by omega)]
  have hj : joinErrF ⟨1, 0, 0, 0, 0, 0, jl, is⟩ m = 0 := by
    have hs : sharesForF ⟨1, 0, 0, 0, 0, 0, jl, is⟩ m = m := by unfold sharesForF; rw [if_pos rfl]
    unfold joinErrF
    rw [hs, if_neg (by simp), if_neg (by omega), if_neg (by simp only; omega)]
  have he : bondErrF (chargeF x 2) 2 1 m = 0 := by
    unfold bondErrF
    rw [qc.vl, if_neg (by decide), if_neg (by omega), hbc, if_neg (by omega)]
    show joinErrF ((chargeF x 2).val 1) m = 0
    rw [qc.val1, hj]
  have e : bondR x 2 1 m = (0, joinF { chargeF x 2 with bal := (chargeF x 2).bal.set 2 ((chargeF x 2).balAt 2 - m) } 2 1 m) := msgR_ok (k := 2) (err := fun y k => bondErrF y k 1 m) (act := fun y k => joinF { y with bal := y.bal.set k (y.balAt k - m) } k (1 : Int).toNat m) hc he
  rw [e]
  refine ⟨rfl, ?_⟩
  obtain ⟨c1, c2, c3, c4, c5, c6, c7, c8, c9, c10, c11, c12, c13⟩ := qc
  rw [hbc, c7]
  generalize chargeF x 2 = y at *
  have hd : ({ y with bal := (bal.set 2 (bal.getD 2 0 - 90)).set 2 (bal.getD 2 0 - 90 - m) } : EC).due 2 1 = 0 := by
    have e1 : ({ y with bal := (bal.set 2 (bal.getD 2 0 - 90)).set 2 (bal.getD 2 0 - 90 - m) } : EC).due 2 1 = y.due 2 1 := rfl
    rw [e1]; unfold EC.due; rw [c12, c13]; simp
  have hsf : sharesForF (({ y with bal := (bal.set 2 (bal.getD 2 0 - 90)).set 2 (bal.getD 2 0 - 90 - m) } : EC).val 1) m = m := by
    have e1 : (({ y with bal := (bal.set 2 (bal.getD 2 0 - 90)).set 2 (bal.getD 2 0 - 90 - m) } : EC).val 1) = y.val 1 := rfl
    rw [e1]
    have : y.val 1 = ⟨1, 0, 0, 0, 0, 0, jl, is⟩ := by simp [EC.val, c8]
    rw [this]; rfl
  have hpa : ({ y with bal := (bal.set 2 (bal.getD 2 0 - 90)).set 2 (bal.getD 2 0 - 90 - m) } : EC).per 1 = 0 := c12
  have hsh : ({ y with bal := (bal.set 2 (bal.getD 2 0 - 90)).set 2 (bal.getD 2 0 - 90 - m) } : EC).sh 2 1 = 0 := c11
  refine ⟨c1, c2, c3, c4, c5, c6, ?_, ?_, c9, ?_, ?_, ?_, ?_⟩
  · simp only [joinF, payF]; rw [hd]
    simp only [EC.balAt]
    rw [getD_set_self (by simp; omega)]
    simp
  · simp only [joinF, payF]; rw [hd, hsf, c8]; simp
  · simp only [joinF, payF, List.length_set]; exact c10
  · simp only [joinF, payF]; rw [hsf, hsh]
    simp only [EC.sh]
    rw [getD_set_self (by simp; omega)]
    omega
  · simp only [joinF, payF, EC.per]; rw [getD_set_ne (by omega), getD_set_ne (by omega)]; exact c12
  · simp only [joinF, payF]; rw [hpa]
    simp only [EC.upto]
    rw [getD_set_ne (by omega), getD_set_self (by omega)]
/-- an unbond of some -/
theorem QC.unb {t : Int} {jl is : Bool} (q : QC x h f P bal ⟨1, 0, t, t, 0, 0, jl, is⟩ ents t) (hb : bal.length = 4) (n : Int) (n1 : 1 ≤ n) (n2 : n < t) (hm : 90 ≤ bal.getD 2 0) (hc4 : countE ents 2 1 < 4) :
    (unbR x 2 1 n).1 = 0 ∧ QC (unbR x 2 1 n).2 h (f + 90) P (bal.set 2 (bal.getD 2 0 - 90)) ⟨1, 0, t - n, t - n, 0, 0, jl, is⟩ (ents ++ [⟨2, 1, h, n⟩]) (t - n) := by
  have hc : chErr x ((2 : Nat) : Int) = 0 := q.paid 2 (by omega) (by omega)
  have qc := q.charge 2
  have he : unbErrF (chargeF x 2) 2 1 n = 0 := by
    unfold unbErrF
    rw [qc.vl, if_neg (by decide)]
    rw [show (chargeF x 2).sh 2 (1 : Int).toNat = t from qc.sh, if_neg (by omega), qc.en]
    rw [if_neg (by have : countE ents ((2 : Nat) : Int) 1 = countE ents 2 1 := rfl; omega)]
  have e : unbR x 2 1 n = (0, unbF (chargeF x 2) 2 1 n) := msgR_ok (k := 2) (err := fun y k => unbErrF y k 1 n) (act := fun y k => unbF y k (1 : Int).toNat n) hc he
  rw [e]
  refine ⟨rfl, ?_⟩
  have hd := qc.due0
  have hv1 := qc.val1
  obtain ⟨c1, c2, c3, c4, c5, c6, c7, c8, c9, c10, c11, c12, c13⟩ := qc
  generalize chargeF x 2 = y at *
  have htf : tokensForF (y.val 1) n = n := by
    rw [hv1]
    simp only [tokensForF]
    rw [if_neg (by omega)]
    exact Int.mul_ediv_cancel n (by omega)
  have hlf : leaveF y 2 1 n = goneF (payF y 2 1) 2 1 n n := by
    have hs : ¬ (y.val 1).shares - n = 0 := by rw [hv1]; simp only; omega
    unfold leaveF
    rw [if_neg hs, htf]
  unfold unbF
  rw [htf, hlf]
  unfold entF
  rw [if_neg (by omega)]
  have hsp : (payF y 2 1).sh 2 1 = t := by
    simp only [payF, EC.sh]; rw [getD_set_ne (by omega)]; exact c11
  refine ⟨c1, c2, c3, c4, c5, c6, ?_, ?_, ?_, ?_, ?_, ?_, ?_⟩
  · simp only [goneF, payF]; rw [hd, c7]
    simp only [EC.balAt]
    rw [c7, getD_set_self (by omega)]
    simp
  · simp only [goneF, payF]; rw [hd, c8]; simp
  · simp only [goneF, payF]; rw [c9, c4]; rfl
  · simp only [goneF, payF, List.length_set]; exact c10
  · simp only [goneF]; rw [hsp]
    simp only [EC.sh]
    rw [getD_set_self (by simp only [payF, List.length_set]; omega)]
  · simp only [goneF, payF, EC.per]; rw [getD_set_ne (by omega), getD_set_ne (by omega)]; exact c12
  · simp only [goneF, payF, EC.upto]; rw [getD_set_ne (by omega), getD_set_self (by omega)]; exact c12
/-- a block where nobody is in the set -/
theorem QC.up {jl : Bool} {t sh : Int} (q : QC x h f P bal ⟨1, 0, t, sh, 0, 0, jl, false⟩ ents s) : QC (upF x) (h + 1) 0 (P + f) bal ⟨1, 0, t, sh, 0, 0, jl, false⟩ ents s := by
  have hb : bondedN x.vals = 0 := by rw [q.vs]; rfl
  have e : shareF x = { x with pool := P + f, fees := 0 } := by
    unfold shareF
    rw [hb, q.vl, q.pp, q.ff]
    simp [shLoop]
  obtain ⟨c1, c2, c3, c4, c5, c6, c7, c8, c9, c10, c11, c12, c13⟩ := q
  unfold upF
  rw [e]
  exact ⟨c1, c2, c3, by simp only; rw [c4], rfl, rfl, c7, c8, c9, c10, c11, c12, c13⟩
theorem chooseF_snd (t sh : Int) (jl is : Bool) (t0 : 0 ≤ t) : chooseF [⟨0, 5, 0, 0, 0, 0, false, false⟩, ⟨1, 0, t, sh, 0, 0, jl, is⟩] 2 = [⟨0, 5, 0, 0, 0, 0, false, false⟩, ⟨1, 0, t, sh, 0, 0, jl, !jl && decide (0 < t)⟩] := by
  cases jl
  · by_cases h1 : (0 : Int) < t
    · simp [chooseF, offL, chooseL, bestL, v0, h1]
    · simp [chooseF, offL, chooseL, bestL, v0, h1]
  · simp [chooseF, offL, chooseL, bestL, v0]
theorem QC.block {jl : Bool} {t sh : Int} (q : QC x h f P bal ⟨1, 0, t, sh, 0, 0, jl, false⟩ ents s) (t0 : 0 ≤ t) (hh : h < 1000) :
    (blkR x).1 = 0 ∧ (blkR x).2.vals = [⟨0, 5, 0, 0, 0, 0, false, false⟩, ⟨1, 0, t, sh, 0, 0, jl, !jl && decide (0 < t)⟩] ∧ (peLoop (upF x) ents.length = (bal, ents) → QC (blkR x).2 (h + 1) 0 (P + f) bal ⟨1, 0, t, sh, 0, 0, jl, !jl && decide (0 < t)⟩ ents s) := by
  have qu := q.up
  unfold blkR
  rw [q.hh, if_neg (by omega)]
  have hv : (payEF (upF x)).vals = [⟨0, 5, 0, 0, 0, 0, false, false⟩, ⟨1, 0, t, sh, 0, 0, jl, false⟩] := qu.vs
  have ht : (payEF (upF x)).top = 2 := qu.top
  refine ⟨rfl, ?_, fun hp => ?_⟩
  · simp only [setF]; rw [hv, ht, chooseF_snd t sh jl false t0]
  · have hvv : (setF (payEF (upF x))).vals = [⟨0, 5, 0, 0, 0, 0, false, false⟩, ⟨1, 0, t, sh, 0, 0, jl, !jl && decide (0 < t)⟩] := by
      simp only [setF]; rw [hv, ht, chooseF_snd t sh jl false t0]
    obtain ⟨c1, c2, c3, c4, c5, c6, c7, c8, c9, c10, c11, c12, c13⟩ := qu
    refine ⟨c1, c2, c3, c4, c5, c6, ?_, hvv, ?_, c10, c11, c12, c13⟩
    · show (peLoop (upF x) (upF x).ents.length).1 = bal
      rw [c9, hp]
    · show (peLoop (upF x) (upF x).ents.length).2 = ents
      rw [c9, hp]
end
end Go.Proofs.Ytohjjgefklhmaaa
