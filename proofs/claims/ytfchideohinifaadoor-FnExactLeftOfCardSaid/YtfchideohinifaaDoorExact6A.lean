/-
  The walk of the exact law of RatioOf.
-/
import Derived.Test.YtfchideohinifaaDoorPowIn
import Derived.Test.YtfchideohinifaaDoorCame
namespace Go.Proofs.YtfchideohinifaaDoor
open Go.RowKit
set_option linter.unusedVariables false

/-- the program's two tables -/
def Tabs (w : World) : Prop := Limits w ∧ Primes w
theorem Tabs.kept {w w' : World} (h : Tabs w) (hb : Below w.heap.size w w') : Tabs w' := ⟨h.1.kept hb, h.2.kept hb⟩
set_option maxHeartbeats 400000 in
theorem FnExactRatioOf_walk (v : Value) (L : List Int) (w : World) (hc : Came w v L) (hsh : Tabs w) :
    Calls Tryd.prog 3 #[v] w fun e w' => e = .returned (.bool true) ∧ Below w.heap.size w w' := by
  obtain ⟨p, m, hv, h1, h2, _⟩ := id hc
  by_cases hl : L.length ≤ 1048576
  · have HC := Lib.hid hc
    have HS := Lib.hid hsh
    have HT := Lib.hid (fun w hw => toIntS_any v L w hw hl)
    have HR := Lib.hid (fun v B w hr => sRatioOf_all v B L w hr)
    have HI := Lib.hid (fun v B w hs hr => iRatioOf_all v B L w (Tabs.kept hs (Below.refl _ _)).1 hs.2 hr)
    unfold ratLV at HR HI
    generalize (ratL L).1 = x at HR HI
    generalize (ratL L).2 = y at HR HI
    subst hv
    clear hc hsh
    go_enter Tryd.func3, Tryd.ntmps3
    go_wp2_with fail
    refine (HT.out _ HC.out).mono ?_; rintro e w1 ⟨v1, rfl, hr, hb⟩
    have HB1 := Lib.hid hb
    go_wp2_with fail
    refine (HR.out _ _ _ hr).mono ?_; rintro e w2 ⟨rfl, hb2⟩
    have HB2 := Lib.hid (HB1.out.trans (hb2.mono HB1.out.size))
    clear hr hb hb2 HB1
    go_wp2_with fail
    refine (HT.out _ (HC.out.kept HB2.out)).mono ?_; rintro e w3 ⟨v2, rfl, hr, hb⟩
    have R2 := Lib.hid hr
    have HB3 := Lib.hid (HB2.out.trans (hb.mono HB2.out.size))
    clear hr hb HB2
    go_wp2_with fail
    refine (HI.out _ _ _ (HS.out.kept HB3.out) R2.out).mono ?_; rintro e w4 ⟨rfl, hb⟩
    have R3 := Lib.hid (R2.out.kept hb)
    have HB4 := Lib.hid (HB3.out.trans (hb.mono HB3.out.size))
    clear hb HB3 R2
    go_wp2_with fail
    refine (HT.out _ (HC.out.kept HB4.out)).mono ?_; rintro e w5 ⟨v3, rfl, hr, hb⟩
    have R4 := Lib.hid (R3.out.kept hb)
    have R5 := Lib.hid hr
    have HB5 := Lib.hid (HB4.out.trans (hb.mono HB4.out.size))
    clear hb hr HB4 R3
    go_wp2_with fail
    refine (eqIntS_same _ _ _ _ _ _ R4.out R5.out).mono ?_; rintro e w6 ⟨rfl, hb⟩
    have HB6 := Lib.hid (HB5.out.trans (hb.mono HB5.out.size))
    clear hb
    go_wp2_with fail
    go_ret
    exact ⟨rfl, HB6.out⟩
  · subst hv
    generalize L.length = n at *
    clear hc
    go_enter Tryd.func3, Tryd.ntmps3
    go_wp2
    go_ret
    exact ⟨rfl, Below.refl _ _⟩
end Go.Proofs.YtfchideohinifaaDoor
