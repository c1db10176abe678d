import Derived.Test.YtkdekfmblpkecaaEFees2
namespace Go.Proofs.Ytkdekfmblpkecaa
open Go.ChangeShapes Go.WideShapes Go.ChangeAt Go.RowKit
set_option linter.unusedVariables false

set_option maxHeartbeats 2000000 in
set_option maxRecDepth 100000 in
/-- no entries: nothing is paid -/
theorem eents0 {S : Nat → Prop} {W0 : World} (g : Nat) (x : EC) (bv vv ev : Value) (w : World) (h : PE S W0 w g x bv vv ev) (h0 : x.ents = []) :
    Calls Try.prog 42 #[.pointer (some ⟨g, 0, none⟩)] w fun e w' => e = .returned (.tuple #[]) ∧ PE S W0 w' g x bv vv (.slice none 0 0) := by
  obtain ⟨ea, ec, he⟩ := ownsRow_slice h.e
  have he2 : ev = .slice ea 0 ec := by rw [he, h0]; rfl
  subst he2
  have c73 : w.cell? ⟨g, 73, none⟩ = some (.slice ea 0 ec) := h.evAt
  have f73 := h.L.frozen 73
  have HF : Hid (PE S W0 (w.setCell ⟨g, 73, none⟩ (.slice none 0 0)) g x bv vv (.slice none 0 0)) := by
    have := h.setEv (ev' := .slice none 0 0) (ents' := []) (World.ownsRow_nil _ _ _ _) (fun k hk => by simp [Value.ownBlock] at hk)
    rw [← h0] at this
    exact this
  clear h he
  go_enter Try.func42, Try.ntmps42
  go_wp2
  go_loopw [2, 10] (fun st i wr => st = .slice none 0 0 ∧ i = .int .i64 0 ∧ wr = w) (fun _ _ _ => 0)
  case atStart => exact ⟨rfl, rfl, rfl⟩
  case round =>
    obtain ⟨rfl, rfl, rfl⟩ := hrel
    go_wp2
    go_end0
    exact ⟨rfl, HF.out⟩

/-- a block, where its entries are turned so -/
def upF (x : EC) : EC := { shareF x with height := x.height + 1 }
def setF (x : EC) : EC := { x with vals := chooseF x.vals x.top }

set_option maxHeartbeats 2000000 in
set_option maxRecDepth 100000 in
theorem eBlock {S : Nat → Prop} {W0 : World} (g : Nat) (x x3 : EC) (bv vv ev : Value) (w : World) (h : PE S W0 w g x bv vv ev) (hv : x.vals.length ≤ 5) (hF : FeeOk x) (hh0 : 0 ≤ x.height) (hh1 : x.height < 1000) (ht0 : 0 ≤ x3.top) (ht1 : x3.top ≤ 1000) (hv3 : x3.vals.length ≤ 1000) (hhs : (shareF x).height = x.height) (Ev : Value → Prop)
    (hpay : ∀ w1, PE S W0 w1 g (upF x) bv vv ev → Calls Try.prog 42 #[.pointer (some ⟨g, 0, none⟩)] w1 fun e w' => e = .returned (.tuple #[]) ∧ ∃ ev', Ev ev' ∧ PE S W0 w' g x3 bv vv ev') :
    Calls Try.prog 17 #[.pointer (some ⟨g, 0, none⟩)] w fun e w' => e = .returned (.int .i64 0) ∧ ∃ ev', Ev ev' ∧ PE S W0 w' g (setF x3) bv vv ev' := by
  have c3 : w.cell? ⟨g, 3, none⟩ = some (.int .i64 x.height) := h.L.cell 3
  have HSh : Hid (Calls Try.prog 41 #[.pointer (some ⟨g, 0, none⟩)] w fun e w' => e = .returned (.tuple #[]) ∧ PE S W0 w' g (shareF x) bv vv ev) := eshareFees g x bv vv ev w h hv hF
  have HPay : Hid (∀ w1, PE S W0 w1 g (upF x) bv vv ev → Calls Try.prog 42 #[.pointer (some ⟨g, 0, none⟩)] w1 fun e w' => e = .returned (.tuple #[]) ∧ ∃ ev', Ev ev' ∧ PE S W0 w' g x3 bv vv ev') := hpay
  have HH : Hid ((shareF x).height = x.height) := hhs
  clear h hpay hF hhs
  go_enter Try.func17, Try.ntmps17
  go_wp2_with fail
  refine HSh.out.mono ?_
  rintro e w1 ⟨rfl, hP1⟩
  have d3 : w1.cell? ⟨g, 3, none⟩ = some (.int .i64 (shareF x).height) := hP1.L.cell 3
  rw [HH.out] at d3
  have k3 := hP1.L.frozen 3
  have HP2 : Hid (PE S W0 (w1.setCell ⟨g, 3, none⟩ (.int .i64 (x.height + 1))) g (upF x) bv vv ev) := hP1.setHead (x' := upF x) 3 (.int .i64 (x.height + 1)) rfl rfl rfl rfl rfl
  clear hP1 HSh HH
  go_wp2_with fail
  refine (HPay.out _ HP2.out).mono ?_
  rintro e w3 ⟨rfl, ev', hE, hP3⟩
  have HE : Hid (Ev ev') := hE
  have HP3 : Hid (PE S W0 w3 g x3 bv vv ev') := hP3
  clear HP2 HPay hP3 hE
  go_wp2_with fail
  refine (echoose g x3 bv vv ev' _ HP3.out hv3 ht0 ht1).mono ?_
  rintro e w4 ⟨rfl, hP4⟩
  have HF : Hid (PE S W0 w4 g (setF x3) bv vv ev') := hP4
  clear hP4 HP3
  go_wp2
  go_ret
  exact ⟨rfl, ev', HE.out, HF.out⟩
/-- the same, where the row of entries is known -/
theorem eBlock0 {S : Nat → Prop} {W0 : World} (g : Nat) (x x3 : EC) (bv vv ev ev3 : Value) (w : World) (h : PE S W0 w g x bv vv ev) (hv : x.vals.length ≤ 5) (hF : FeeOk x) (hh0 : 0 ≤ x.height) (hh1 : x.height < 1000) (ht0 : 0 ≤ x3.top) (ht1 : x3.top ≤ 1000) (hv3 : x3.vals.length ≤ 1000) (hhs : (shareF x).height = x.height)
    (hpay : ∀ w1, PE S W0 w1 g (upF x) bv vv ev → Calls Try.prog 42 #[.pointer (some ⟨g, 0, none⟩)] w1 fun e w' => e = .returned (.tuple #[]) ∧ PE S W0 w' g x3 bv vv ev3) :
    Calls Try.prog 17 #[.pointer (some ⟨g, 0, none⟩)] w fun e w' => e = .returned (.int .i64 0) ∧ PE S W0 w' g (setF x3) bv vv ev3 := by
  refine (eBlock g x x3 bv vv ev w h hv hF hh0 hh1 ht0 ht1 hv3 hhs (fun v => v = ev3) (fun w1 h1 => (hpay w1 h1).mono ?_)).mono ?_
  · rintro e w2 ⟨rfl, h2⟩
    exact ⟨rfl, ev3, rfl, h2⟩
  · rintro e w2 ⟨rfl, ev', rfl, h2⟩
    exact ⟨rfl, h2⟩
end Go.Proofs.Ytkdekfmblpkecaa
