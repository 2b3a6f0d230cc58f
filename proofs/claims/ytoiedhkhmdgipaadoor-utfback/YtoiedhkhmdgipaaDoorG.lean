import Derived.Test.YtoiedhkhmdgipaaDoorF
import Derived.Lib.IndexBytes
namespace Go.Proofs.YtoiedhkhmdgipaaDoor
open Go.RowKit

def lstL (f : Nat) (lead a z : Int) (l : List Nat) : Int := finO a z (lsL f (l.headD 0 - lead) (l.headD 0 - lead) (l.drop 1))
theorem lst_L (f : Nat) (lead a z : Int) (s : ByteArray) : lst f lead a z s = lstL f lead a z (bs s) := rfl
/-- What Starts answers. -/
def stL (l : List Nat) : Int :=
  if l.headD 0 < 128 then (if 1 < l.length then 0 else 1)
  else if l.headD 0 < 192 then 0
  else if l.headD 0 < 224 then (if 2 < l.length then 0 else if lstL 1 192 128 2047 l < 0 then 0 else 2)
  else if l.headD 0 < 240 then (if 3 < l.length then 0 else if lstL 2 224 2048 65535 l < 0 then 0 else 3)
  else if l.headD 0 < 248 then (if 4 < l.length then 0 else if lstL 3 240 65536 1114111 l < 0 then 0 else 4)
  else 0
theorem bs_headD (s : ByteArray) (hp : 0 < s.size) : (bs s).headD 0 = s[0].toNat := by rw [bs_head s hp]; rfl

theorem stL_eq (s : ByteArray) (hp : 0 < s.size) : stL (bs s) =
    (if s[0].toNat < 128 then (if 1 < s.size then 0 else 1)
    else if s[0].toNat < 192 then 0
    else if s[0].toNat < 224 then (if 2 < s.size then 0 else if lst 1 192 128 2047 s < 0 then 0 else 2)
    else if s[0].toNat < 240 then (if 3 < s.size then 0 else if lst 2 224 2048 65535 s < 0 then 0 else 3)
    else if s[0].toNat < 248 then (if 4 < s.size then 0 else if lst 3 240 65536 1114111 s < 0 then 0 else 4)
    else 0) := by
  unfold stL
  rw [bs_headD s hp, bs_len, ← lst_L, ← lst_L, ← lst_L]

set_option maxRecDepth 100000 in
set_option maxHeartbeats 2000000 in
theorem starts_any (s : ByteArray) (w : World) (hs : s.size ≤ 100000) (hp : 0 < s.size) :
    Calls Tryd.prog 26 #[.string s] w fun e w' => e = .returned (.int .i64 (stL (bs s))) ∧ w = w' := by
  have b0 : (s[0].toNat : Int) < 256 := by have := s[0].toNat_lt; omega
  have HE := Lib.hid (stL_eq s hp)
  by_cases c1 : s[0].toNat < 128
  · rw [if_pos c1] at HE
    have d1 : (s[0].toNat : Int) < 128 := by omega
    clear c1
    by_cases l1 : 1 < s.size
    · rw [if_pos l1] at HE
      go_enter Tryd.func26, Tryd.ntmps26
      go_wp2
      go_ret
      exact ⟨ret_int HE.out.symm, rfl⟩
    · rw [if_neg l1] at HE
      go_enter Tryd.func26, Tryd.ntmps26
      go_wp2
      go_ret
      exact ⟨ret_int HE.out.symm, rfl⟩
  rw [if_neg c1] at HE
  by_cases c2 : s[0].toNat < 192
  · rw [if_pos c2] at HE
    have d1 : 128 ≤ (s[0].toNat : Int) := by omega
    have d2 : (s[0].toNat : Int) < 192 := by omega
    clear c1 c2
    go_enter Tryd.func26, Tryd.ntmps26
    go_wp2
    go_ret
    exact ⟨ret_int HE.out.symm, rfl⟩
  rw [if_neg c2] at HE
  by_cases c3 : s[0].toNat < 224
  · rw [if_pos c3] at HE
    have e1 : 192 ≤ s[0].toNat := by omega
    have d1 : 192 ≤ (s[0].toNat : Int) := by omega
    have d2 : (s[0].toNat : Int) < 224 := by omega
    have C := Lib.hid c3
    have E := Lib.hid e1
    clear c1 c2 c3 e1
    by_cases l1 : 2 < s.size
    · rw [if_pos l1] at HE
      go_enter Tryd.func26, Tryd.ntmps26
      go_wp2
      go_ret
      exact ⟨ret_int HE.out.symm, rfl⟩
    rw [if_neg l1] at HE
    by_cases l2 : lst 1 192 128 2047 s < 0
    · rw [if_pos l2] at HE
      go_enter Tryd.func26, Tryd.ntmps26
      go_wp2_with fail
      refine (least2 s _ hs hp E.out C.out).mono ?_
      rintro e w' ⟨rfl, rfl⟩
      go_wp2
      go_ret
      exact ⟨ret_int HE.out.symm, rfl⟩
    · rw [if_neg l2] at HE
      go_enter Tryd.func26, Tryd.ntmps26
      go_wp2_with fail
      refine (least2 s _ hs hp E.out C.out).mono ?_
      rintro e w' ⟨rfl, rfl⟩
      go_wp2
      go_ret
      exact ⟨ret_int HE.out.symm, rfl⟩
  rw [if_neg c3] at HE
  by_cases c4 : s[0].toNat < 240
  · rw [if_pos c4] at HE
    have e1 : 224 ≤ s[0].toNat := by omega
    have d1 : 224 ≤ (s[0].toNat : Int) := by omega
    have d2 : (s[0].toNat : Int) < 240 := by omega
    have C := Lib.hid c4
    have E := Lib.hid e1
    clear c1 c2 c3 c4 e1
    by_cases l1 : 3 < s.size
    · rw [if_pos l1] at HE
      go_enter Tryd.func26, Tryd.ntmps26
      go_wp2
      go_ret
      exact ⟨ret_int HE.out.symm, rfl⟩
    rw [if_neg l1] at HE
    by_cases l2 : lst 2 224 2048 65535 s < 0
    · rw [if_pos l2] at HE
      go_enter Tryd.func26, Tryd.ntmps26
      go_wp2_with fail
      refine (least3 s _ hs hp E.out C.out).mono ?_
      rintro e w' ⟨rfl, rfl⟩
      go_wp2
      go_ret
      exact ⟨ret_int HE.out.symm, rfl⟩
    · rw [if_neg l2] at HE
      go_enter Tryd.func26, Tryd.ntmps26
      go_wp2_with fail
      refine (least3 s _ hs hp E.out C.out).mono ?_
      rintro e w' ⟨rfl, rfl⟩
      go_wp2
      go_ret
      exact ⟨ret_int HE.out.symm, rfl⟩
  rw [if_neg c4] at HE
  by_cases c5 : s[0].toNat < 248
  · rw [if_pos c5] at HE
    have e1 : 240 ≤ s[0].toNat := by omega
    have d1 : 240 ≤ (s[0].toNat : Int) := by omega
    have d2 : (s[0].toNat : Int) < 248 := by omega
    have C := Lib.hid c5
    have E := Lib.hid e1
    clear c1 c2 c3 c4 c5 e1
    by_cases l1 : 4 < s.size
    · rw [if_pos l1] at HE
      go_enter Tryd.func26, Tryd.ntmps26
      go_wp2
      go_ret
      exact ⟨ret_int HE.out.symm, rfl⟩
    rw [if_neg l1] at HE
    by_cases l2 : lst 3 240 65536 1114111 s < 0
    · rw [if_pos l2] at HE
      go_enter Tryd.func26, Tryd.ntmps26
      go_wp2_with fail
      refine (least4 s _ hs hp E.out C.out).mono ?_
      rintro e w' ⟨rfl, rfl⟩
      go_wp2
      go_ret
      exact ⟨ret_int HE.out.symm, rfl⟩
    · rw [if_neg l2] at HE
      go_enter Tryd.func26, Tryd.ntmps26
      go_wp2_with fail
      refine (least4 s _ hs hp E.out C.out).mono ?_
      rintro e w' ⟨rfl, rfl⟩
      go_wp2
      go_ret
      exact ⟨ret_int HE.out.symm, rfl⟩
  rw [if_neg c5] at HE
  have d1 : 248 ≤ (s[0].toNat : Int) := by omega
  clear c1 c2 c3 c4 c5
  go_enter Tryd.func26, Tryd.ntmps26
  go_wp2
  go_ret
  exact ⟨ret_int HE.out.symm, rfl⟩
end Go.Proofs.YtoiedhkhmdgipaaDoor
