import Derived.Test.YtajhgbcgbgpcjaaDoorGE
import Derived.Test.YtajhgbcgbgpcjaaDoorGQ
namespace Go.Proofs.YtajhgbcgbgpcjaaDoor.Uc
open Go.RowKit Fi

theorem str_lst (s : ByteArray) : s.toList = s.data.toList := Lib.toList_data s
theorem str_ne {s t : ByteArray} (h : s ≠ t) : (s.toList == t.toList) = false := by
  rw [str_lst, str_lst]
  simpa using fun h2 => h (str_eq (Array.toList_inj.2 h2))
theorem str_ne2 {s t : ByteArray} (h : s ≠ t) : ¬ s.toList = t.toList := by
  rw [str_lst, str_lst]
  exact fun h2 => h (str_eq h2)
theorem mk_inj {a b : List UInt8} : (⟨a.toArray⟩ : ByteArray) = ⟨b.toArray⟩ ↔ a = b := by simp
def endR (o : Option (List UInt8)) (n2 g1 g2 : ByteArray) (c1 c2 : Int) (l1 l2 : Nat) (f1 f2 : Int) : Bool := match o with
  | none => false
  | some n => decide ((⟨n.toArray⟩ : ByteArray) = n2) && (decide (g1 = g2) && (decide (c1 = c2) && (decide (l1 = 0) && (decide (l2 = 0) && decide (f2 ≤ f1)))))
theorem endR_eq (x y : Rw) : endR (rgN x.nm lastE) ⟨y.nm.toArray⟩ ⟨x.ct.toArray⟩ ⟨y.ct.toArray⟩ x.cl y.cl x.into.length y.into.length x.fr y.fr = endB x y := by
  unfold endR endB
  cases rgN x.nm lastE with
  | none => rfl
  | some n => simp only [mk_inj]
set_option maxRecDepth 100000 in
set_option maxHeartbeats 4000000 in
theorem ends_raw (f1 t1 f2 t2 c1 c2 : Int) (n1 g1 k1 n2 g2 k2 : ByteArray) (A1 A2 : Option Addr) (l1 p1 l2 p2 : Nat) (w : World) (hs : n1.size ≤ 9223372036854775807) :
    Calls Tryd.prog 21 #[.agg #[.int .i32 f1, .int .i32 t1, .string n1, .string g1, .int .i64 c1, .string k1, .slice A1 l1 p1], .agg #[.int .i32 f2, .int .i32 t2, .string n2, .string g2, .int .i64 c2, .string k2, .slice A2 l2 p2]] w
      fun e w' => e = .returned (.bool (endR (rgN n1.data.toList lastE) n2 g1 g2 c1 c2 l1 l2 f1 f2)) ∧ Below w.heap.size w w' := by
  have hR := fun W => range_name n1 ⟨#[44, 32, 76, 97, 115, 116, 62]⟩ W hs
  rw [show (⟨#[44, 32, 76, 97, 115, 116, 62]⟩ : ByteArray).data.toList = lastE from rfl] at hR
  have D := Lib.hid (((Below.refl w.heap.size w).alloc (Nat.le_refl _) (.cells #[.int .i32 f1, .int .i32 t1, .string n1, .string g1, .int .i64 c1, .string k1, .slice A1 l1 p1] 33)).alloc (by simp) (.cells #[.int .i32 f2, .int .i32 t2, .string n2, .string g2, .int .i64 c2, .string k2, .slice A2 l2 p2] 33))
  cases ho : rgN n1.data.toList lastE with
  | none =>
    rw [ho] at hR
    have HR := Lib.hid (show ∀ W, Calls Tryd.prog 20 #[.string n1, .string ⟨#[44, 32, 76, 97, 115, 116, 62]⟩] W fun e w' => e = .returned (.tuple #[.string ⟨#[]⟩, .bool false]) ∧ W = w' from hR)
    clear hR ho
    go_enter Tryd.func21, Tryd.ntmps21
    go_wp2_with (go_at_call 20; refine (HR.out _).mono ?_; rintro e w1 ⟨rfl, rfl⟩)
    go_ret
    exact ⟨rfl, D.out⟩
  | some n =>
    rw [ho] at hR
    obtain ⟨nb, hnb⟩ : ∃ nb : ByteArray, nb = ⟨n.toArray⟩ := ⟨_, rfl⟩
    have hR2 : ∀ W, Calls Tryd.prog 20 #[.string n1, .string ⟨#[44, 32, 76, 97, 115, 116, 62]⟩] W fun e w' => e = .returned (.tuple #[.string ⟨n.toArray⟩, .bool true]) ∧ W = w' := hR
    rw [← hnb] at hR2
    have HR := Lib.hid hR2
    have HE := Lib.hid (show endR (some n) n2 g1 g2 c1 c2 l1 l2 f1 f2 = (decide (nb = n2) && (decide (g1 = g2) && (decide (c1 = c2) && (decide (l1 = 0) && (decide (l2 = 0) && decide (f2 ≤ f1)))))) by rw [hnb]; rfl)
    clear hR hR2 ho hnb
    by_cases q1 : nb = n2
    · subst q1
      by_cases q2 : g1 = g2
      · subst q2
        by_cases q3 : c1 = c2
        · subst q3
          by_cases q4 : l1 = 0
          · subst q4
            by_cases q5 : l2 = 0
            · subst q5
              by_cases q6 : f2 ≤ f1
              · go_enter Tryd.func21, Tryd.ntmps21
                go_wp2_with (go_at_call 20; refine (HR.out _).mono ?_; rintro e w1 ⟨rfl, rfl⟩)
                go_ret
                exact ⟨ret_bool (by rw [HE.out]; simp [q6]), D.out⟩
              · go_enter Tryd.func21, Tryd.ntmps21
                go_wp2_with (go_at_call 20; refine (HR.out _).mono ?_; rintro e w1 ⟨rfl, rfl⟩)
                go_ret
                exact ⟨ret_bool (by rw [HE.out]; simp), D.out⟩
            · have e5 : ((l2 : Int) == 0) = false := by simpa using q5
              go_enter Tryd.func21, Tryd.ntmps21
              go_wp2_with (go_at_call 20; refine (HR.out _).mono ?_; rintro e w1 ⟨rfl, rfl⟩)
              go_ret
              exact ⟨ret_bool (by rw [HE.out]; simp [q5]), D.out⟩
          · have e4 : ((l1 : Int) == 0) = false := by simpa using q4
            go_enter Tryd.func21, Tryd.ntmps21
            go_wp2_with (go_at_call 20; refine (HR.out _).mono ?_; rintro e w1 ⟨rfl, rfl⟩)
            go_ret
            exact ⟨ret_bool (by rw [HE.out]; simp [q4]), D.out⟩
        · have e3 : (c1 == c2) = false := by simpa using q3
          go_enter Tryd.func21, Tryd.ntmps21
          go_wp2_with (go_at_call 20; refine (HR.out _).mono ?_; rintro e w1 ⟨rfl, rfl⟩)
          go_ret
          exact ⟨ret_bool (by rw [HE.out]; simp [q3]), D.out⟩
      · have e2 := str_ne q2
        have e2' := str_ne2 q2
        go_enter Tryd.func21, Tryd.ntmps21
        go_wp2_with (go_at_call 20; refine (HR.out _).mono ?_; rintro e w1 ⟨rfl, rfl⟩)
        go_ret
        exact ⟨ret_bool (by rw [HE.out]; simp [q2]), D.out⟩
    · have e1 := str_ne q1
      have e1' := str_ne2 q1
      go_enter Tryd.func21, Tryd.ntmps21
      go_wp2_with (go_at_call 20; refine (HR.out _).mono ?_; rintro e w1 ⟨rfl, rfl⟩)
      go_ret
      exact ⟨ret_bool (by rw [HE.out]; simp [q1]), D.out⟩

end Go.Proofs.YtajhgbcgbgpcjaaDoor.Uc
