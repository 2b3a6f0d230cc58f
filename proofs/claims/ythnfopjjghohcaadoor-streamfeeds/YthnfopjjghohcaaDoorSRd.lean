import Derived.Test.YthnfopjjghohcaaDoorSRwFf
import Derived.Test.YthnfopjjghohcaaDoorSRwFt
import Derived.Test.YthnfopjjghohcaaDoorSRwT0f
import Derived.Test.YthnfopjjghohcaaDoorSRwT0t
import Derived.Test.YthnfopjjghohcaaDoorSRwT1f
import Derived.Test.YthnfopjjghohcaaDoorSRwT1t
namespace Go.Proofs.YthnfopjjghohcaaDoor.St
open Go.RowKit

set_option maxRecDepth 100000 in
set_option maxHeartbeats 1000000 in
theorem rwU (k : Nat) (pol : Int) (s : ByteArray) (w : World) (hu : Dg.und (bs s) = true) :
    Calls Tryd.prog 12 #[.int .i64 (k : Int), .int .i64 pol, .bool true, .string s, .bool true] w (RefP w k s ([], [], 0)) := by
  have HUN := Lib.hid (undecided_any s w)
  rw [hu] at HUN
  clear hu
  go_enter Tryd.func12, Tryd.ntmps12
  go_wp2_with (go_at_call 24; refine HUN.out.mono ?_; rintro e w0 ⟨rfl, hb⟩; have B0 := Lib.hid hb; clear hb)
  refine bodyPost_ret (v := .tuple #[.slice none 0 0, .slice none 0 0, .int .i64 (k : Int), .string s, .int .i64 0]) (by simp [results, Tryd.results12, go_sem]) rfl ?_
  exact RefP.mk rfl (World.ownsRow_nil _ _ _ _) (World.ownsRow_nil _ _ _ _) B0.out
/-- The reference's answer of bytes that are all there. -/
theorem rwhole_any (k : Nat) (pol : Int) (g : Bool) (s : ByteArray) (w : World) (h1 : 1 ≤ k) (h5 : k ≤ 5) (hq : pol = 1 ∨ pol = 2 ∨ pol = 3) (hs : s.size ≤ 100000) :
    Calls Tryd.prog 12 #[.int .i64 (k : Int), .int .i64 pol, .bool g, .string s, .bool false] w (RefP w (Dg.knd k g (bs s)) ⟨#[]⟩ (Dg.whole k pol g (bs s))) := by
  have hkb := Dg.knd_bd k g (bs s) h1 h5
  have hbl := Dg.beg_le g (bs s)
  rw [bs_len] at hbl
  have ht : X (Dg.nx5 (Dg.knd k g (bs s))) false pol (Dg.beg g (bs s)) ((bs s).drop (Dg.beg g (bs s))) = Dg.whole k pol g (bs s) := rfl
  cases g
  · exact rwFf k _ _ pol s w hkb.1 hkb.2 hq hs hbl (Dg.knd_no _ _) rfl 0 (fun h => absurd h (by decide)) _ ht _ rfl
  · obtain ⟨_, h0, _⟩ := Dg.gs5_kind (bs s)
    by_cases hg : (Dg.gs5 (bs s)).1 = 0
    · have hk : Dg.knd k true (bs s) = k := by unfold Dg.knd; rw [if_neg (by omega)]
      exact rwT0f k _ _ pol s w hkb.1 hkb.2 hq hs hbl (Prod.ext hg (h0 hg)) hk (h0 hg) 0 (fun h => absurd h (by decide)) _ ht _ rfl
    · have hk : Dg.knd k true (bs s) = (Dg.gs5 (bs s)).1 := by unfold Dg.knd; rw [if_pos ⟨rfl, by omega⟩]
      exact rwT1f k _ _ pol s w hkb.1 hkb.2 hq hs hbl (Prod.ext hk.symm rfl) 0 (fun h => absurd h (by decide)) _ ht _ rfl
/-- What of bytes is sure, by the reference. -/
theorem rsure_any (k : Nat) (pol : Int) (g : Bool) (s : ByteArray) (w : World) (h1 : 1 ≤ k) (h5 : k ≤ 5) (hq : pol = 1 ∨ pol = 2 ∨ pol = 3) (hs : s.size ≤ 100000) :
    Calls Tryd.prog 12 #[.int .i64 (k : Int), .int .i64 pol, .bool g, .string s, .bool true] w (RefP w (Dg.sureK k g (bs s)) (if (Dg.sure k pol g (bs s)).2.2 = 0 then s.extract (Dg.cut5 k g (bs s)) s.size else ⟨#[]⟩) (Dg.sure k pol g (bs s))) := by
  by_cases hu : (g && Dg.und (bs s)) = true
  · have hc : Dg.cut5 k g (bs s) = 0 := by unfold Dg.cut5; rw [if_pos hu]
    have hss : Dg.sure k pol g (bs s) = ([], [], 0) := by unfold Dg.sure; rw [if_pos hu]
    have hk : Dg.sureK k g (bs s) = k := by unfold Dg.sureK; rw [if_pos hu]
    rw [hc, hss, hk, if_pos rfl, show s.extract 0 s.size = s from bs_inj (by rw [bs_from]; rfl)]
    simp only [Bool.and_eq_true] at hu
    obtain ⟨rfl, hu⟩ := hu
    exact rwU k pol s w hu
  · have hkb := Dg.knd_bd k g (bs s) h1 h5
    have hbl := Dg.beg_le g (bs s)
    rw [bs_len] at hbl
    have ht : X (Dg.nx5 (Dg.knd k g (bs s))) true pol (Dg.beg g (bs s)) ((bs s).drop (Dg.beg g (bs s))) = Dg.sure k pol g (bs s) := by
      unfold Dg.sure
      rw [if_neg hu]
      rfl
    have hc : Dg.cut5 k g (bs s) = Dg.beg g (bs s) + Dg.scan (Dg.nx5 (Dg.knd k g (bs s))) ((bs s).drop (Dg.beg g (bs s))) := by unfold Dg.cut5; rw [if_neg hu]
    have hk' : Dg.sureK k g (bs s) = Dg.knd k g (bs s) := by unfold Dg.sureK; rw [if_neg hu]
    rw [hk']
    cases g
    · exact rwFt k _ _ pol s w hkb.1 hkb.2 hq hs hbl (Dg.knd_no _ _) rfl _ (fun _ => hc) _ ht _ rfl
    · have hu' : Dg.und (bs s) = false := by simpa using hu
      obtain ⟨_, h0, _⟩ := Dg.gs5_kind (bs s)
      by_cases hg : (Dg.gs5 (bs s)).1 = 0
      · have hk : Dg.knd k true (bs s) = k := by unfold Dg.knd; rw [if_neg (by omega)]
        exact rwT0t k _ _ pol s w hkb.1 hkb.2 hq hs hbl (Prod.ext hg (h0 hg)) hk (h0 hg) hu' _ (fun _ => hc) _ ht _ rfl
      · have hk : Dg.knd k true (bs s) = (Dg.gs5 (bs s)).1 := by unfold Dg.knd; rw [if_pos ⟨rfl, by omega⟩]
        exact rwT1t k _ _ pol s w hkb.1 hkb.2 hq hs hbl (Prod.ext hk.symm rfl) hu' _ (fun _ => hc) _ ht _ rfl
end Go.Proofs.YthnfopjjghohcaaDoor.St
