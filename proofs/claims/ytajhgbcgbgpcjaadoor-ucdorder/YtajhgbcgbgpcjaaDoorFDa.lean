import Derived.Test.YtajhgbcgbgpcjaaDoorFC
namespace Go.Proofs.YtajhgbcgbgpcjaaDoor.Fi
open Go.RowKit

theorem cut_le (s t : List UInt8) : (Lib.cut s t).1.length ≤ s.length ∧ (Lib.cut s t).2.1.length ≤ s.length := by
  unfold Lib.cut
  split
  · simp [List.length_take]; omega
  · simp
/-- What a line tells. -/
def toldL (l : List UInt8) : List UInt8 := bareL (Lib.cut l [35]).1
theorem toldL_le (l : List UInt8) : (toldL l).length ≤ l.length := Nat.le_trans (bareL_le _) (cut_le l [35]).1
theorem told_any (s : ByteArray) (w : World) (hM : Ml w) (hs : s.size < 4294967281) :
    Calls Tryd.prog 61 #[.string s] w fun e w' => e = .returned (.string ⟨(toldL s.data.toList).toArray⟩) ∧ Below w.heap.size w w' := by
  have HD := Lib.hid (cut_any s ⟨#[35]⟩ w hM hs)
  have hl := (cut_le s.data.toList [35]).1
  rw [lst_len] at hl
  have HB := Lib.hid (fun W => bare_any ⟨(Lib.cut s.data.toList [35]).1.toArray⟩ W (by rw [size_mk]; omega))
  clear hM hl
  go_enter Tryd.func61, Tryd.ntmps61
  go_wp2_with (first
    | (go_at_call 47; refine HD.out.mono ?_; rintro e w1 ⟨rfl, hb⟩; have B1 := Lib.hid hb; clear hb)
    | (go_at_call 48; refine (HB.out _).mono ?_; rintro e w2 ⟨rfl, hb⟩; have B2 := Lib.hid hb; clear hb))
  go_ret
  exact ⟨rfl, B1.out.trans (B2.out.mono B1.out.size)⟩

/-- The first and the last character of a range, and the error. -/
def rngE (l : List UInt8) : Int × Int × Int :=
  if (Lib.cut l [46, 46]).2.2 then
    (if (hexE (bareL (Lib.cut l [46, 46]).1)).2 ≠ 0 then (0, 0, (hexE (bareL (Lib.cut l [46, 46]).1)).2)
     else if (hexE (bareL (Lib.cut l [46, 46]).2.1)).2 ≠ 0 then (0, 0, (hexE (bareL (Lib.cut l [46, 46]).2.1)).2)
     else if (hexE (bareL (Lib.cut l [46, 46]).2.1)).1 < (hexE (bareL (Lib.cut l [46, 46]).1)).1 then (0, 0, 11)
     else ((hexE (bareL (Lib.cut l [46, 46]).1)).1, (hexE (bareL (Lib.cut l [46, 46]).2.1)).1, 0))
  else ((hexE l).1, (hexE l).1, (hexE l).2)
def r3V (x : Int × Int × Int) : Value := .tuple #[.int .i32 x.1, .int .i32 x.2.1, .int .i64 x.2.2]
theorem hexE_bd (l : List UInt8) : 0 ≤ (hexE l).1 ∧ (hexE l).1 ≤ 1114111 := by
  rcases hexE_cases l with ⟨_, h⟩ | ⟨h, _⟩
  · exact scal_bd h
  · omega

end Go.Proofs.YtajhgbcgbgpcjaaDoor.Fi
