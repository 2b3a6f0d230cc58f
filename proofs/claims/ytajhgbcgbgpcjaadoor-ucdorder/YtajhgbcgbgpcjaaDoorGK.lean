import Derived.Test.YtajhgbcgbgpcjaaDoorGE
import Derived.Test.YtajhgbcgbgpcjaaDoorFL
namespace Go.Proofs.YtajhgbcgbgpcjaaDoor.Uc
open Go.RowKit Fi

def okC (b : Nat) : Bool := !(decide (b < 32) || (decide (b = 59) || decide (b = 35)))
def plB (l : List UInt8) : Bool := (l.all fun c => okC c.toNat) && (decide (l.length ≤ 100) && (!Lib.hasPrefix l [32] && !Lib.hasSuffix l [32]))
def rngB (f t c : Int) (l : List Int) : Bool := scal f && (scal t && (decide (f ≤ t) && (decide (0 ≤ c) && (decide (c ≤ 254) && (decide (l.length ≤ 18) && l.all scal)))))
def frmB (f t : Int) (n g k : List UInt8) (m : Nat) : Bool := (ltrs k && !(decide (k ≠ []) && decide (m = 0))) && ((plB n && plB g) && (if f ≠ t then decide (m = 0) else !(rgN n firstE).isSome && !(rgN n lastE).isSome))
/-- What is wrong with a row. -/
def chkE (x : Rw) : Int := if rngB x.fr x.tt x.cl x.into = false then 11 else if frmB x.fr x.tt x.nm x.ct x.kd x.into.length = false then 10 else 0

theorem noch_any (r : Int) (w : World) : Calls Tryd.prog 56 #[.int .i32 r] w fun e w' => e = .returned (.bool (!scal r)) ∧ w = w' := by
  go_enter Tryd.func56, Tryd.ntmps56
  go_wp2_with (go_at_call 15; refine (scalar_any _ _).mono ?_; rintro e w' ⟨rfl, rfl⟩)
  go_ret
  exact ⟨rfl, rfl⟩
theorem enters_noch : ∀ args w, (callFunc 56 args).run Tryd.prog w = .ok (.enter 56 args) w := enters_of Tryd.func56 (by kernel_rfl) rfl
theorem any_on (l : List Int) (i : Nat) (h : i < l.length) : (l.drop i).all scal = (scal (l.getD i 0) && (l.drop (i + 1)).all scal) := by
  rw [List.drop_eq_getElem_cons h, List.all_cons]
  simp [List.getD, List.getElem?_eq_getElem h]
set_option maxRecDepth 100000 in
set_option maxHeartbeats 1000000 in
theorem index_any (A : Option Addr) (p : Nat) (l : List Int) (w : World) (hl : Ints .i32 w A l) (hz : l.length ≤ 100000) :
    Calls Tryd.prog 76 #[.slice A l.length p, .func (.func 56) #[] #[]] w fun e w' => (∃ i : Int, e = .returned (.int .i64 i) ∧ decide (0 ≤ i) = !(l.all scal)) ∧ w = w' := by
  have HI := Lib.hid hl
  clear hl
  go_enter Tryd.func76, Tryd.ntmps76
  go_wp2_with fail
  go_loop [5, 8] (fun _ i => ∃ k : Nat, i = .int .i64 k ∧ k ≤ l.length ∧ Hid ((l.drop k).all scal = l.all scal)) (fun _ i => l.length - (intOf i).toNat)
  case atStart => exact ⟨0, rfl, by omega, rfl⟩
  case round =>
    obtain ⟨k, rfl, hk, HD⟩ := hrel
    by_cases hlt : k < l.length
    · obtain ⟨b, off, rfl, hb, hc⟩ := HI.out k hlt
      have hon := any_on l k hlt
      have g1 : (k : Int) < l.length := by omega
      have hN := fun W => noch_any (l.getD k 0) W
      generalize l.getD k 0 = r at *
      cases hs : scal r with
      | true =>
        rw [hs] at hon hN
        have HN := Lib.hid (show ∀ W, Calls Tryd.prog 56 #[.int .i32 r] W fun e w' => e = .returned (.bool false) ∧ W = w' from hN)
        have HQ := Lib.hid (show (l.drop (k + 1)).all scal = l.all scal by rw [← HD.out, hon, Bool.true_and])
        clear hon hN hs
        go_wp2_with (go_at_call 56; refine (HN.out _).mono ?_; rintro e w' ⟨rfl, rfl⟩)
        go_round
        case rel => exact ⟨k + 1, by go_num, by omega, HQ.out⟩
        case measure => simp [intOf]; omega
      | false =>
        rw [hs] at hon hN
        have HN := Lib.hid (show ∀ W, Calls Tryd.prog 56 #[.int .i32 r] W fun e w' => e = .returned (.bool true) ∧ W = w' from hN)
        have HQ := Lib.hid (show l.all scal = false by rw [← HD.out, hon, Bool.false_and])
        clear hon hN hs
        go_wp2_with (go_at_call 56; refine (HN.out _).mono ?_; rintro e w' ⟨rfl, rfl⟩)
        go_ret
        exact ⟨⟨k, rfl, by rw [HQ.out]; simp⟩, rfl⟩
    · have g1 : ¬ (k : Int) < l.length := by omega
      have HQ := Lib.hid (show l.all scal = true by rw [← HD.out, List.drop_eq_nil_of_le (by omega)]; rfl)
      go_wp2_with fail
      go_ret
      exact ⟨⟨-1, rfl, by rw [HQ.out]; rfl⟩, rfl⟩
theorem contains_any (A : Option Addr) (p : Nat) (l : List Int) (w : World) (hl : Ints .i32 w A l) (hz : l.length ≤ 100000) :
    Calls Tryd.prog 55 #[.slice A l.length p, .func (.func 56) #[] #[]] w fun e w' => e = .returned (.bool (!(l.all scal))) ∧ w = w' := by
  have HI := Lib.hid (index_any A p l w hl hz)
  clear hl
  go_enter Tryd.func55, Tryd.ntmps55
  go_wp2_with (go_at_call 76; refine HI.out.mono ?_; rintro e w' ⟨⟨i, rfl, hi⟩, rfl⟩; have HH := Lib.hid hi; clear hi)
  go_ret
  exact ⟨ret_bool HH.out, rfl⟩

theorem pl_on (s : ByteArray) (k : Nat) (h : k < s.size) : ((s.data.toList.drop k).all fun c => okC c.toNat) = (okC s[k].toNat && ((s.data.toList.drop (k + 1)).all fun c => okC c.toNat)) := by
  rw [lst_at s k h]; rfl
set_option maxRecDepth 100000 in
set_option maxHeartbeats 2000000 in
theorem pplain_any (s : ByteArray) (w : World) (hs : s.size ≤ 9223372036854775807) :
    Calls Tryd.prog 58 #[.string s] w fun e w' => e = .returned (.bool (plB s.data.toList)) ∧ w = w' := by
  have HP := Lib.hid (show ∀ W, Calls Tryd.prog 78 #[.string s, .string ⟨#[32]⟩] W fun e w' => e = .returned (.bool (Lib.hasPrefix s.data.toList [32])) ∧ w' = W from fun W => Tryd.strings_HasPrefix s ⟨#[32]⟩ W)
  have HU := Lib.hid (show ∀ W, Calls Tryd.prog 79 #[.string s, .string ⟨#[32]⟩] W fun e w' => e = .returned (.bool (Lib.hasSuffix s.data.toList [32])) ∧ w' = W from fun W => Tryd.strings_HasSuffix s ⟨#[32]⟩ W hs)
  have HE := Lib.hid (show plB s.data.toList = ((s.data.toList.all fun c => okC c.toNat) && (decide (s.size ≤ 100) && (!Lib.hasPrefix s.data.toList [32] && !Lib.hasSuffix s.data.toList [32]))) by unfold plB; rw [lst_len])
  generalize Lib.hasPrefix s.data.toList [32] = bp at *
  generalize Lib.hasSuffix s.data.toList [32] = bs at *
  generalize plB s.data.toList = res at *
  go_enter Tryd.func58, Tryd.ntmps58
  go_wp2_with fail
  go_loop [3, 6] (fun _ i => ∃ k : Nat, i = .int .i64 k ∧ k ≤ s.size ∧ Hid (((s.data.toList.drop k).all fun c => okC c.toNat) = s.data.toList.all fun c => okC c.toNat)) (fun _ i => s.size - (intOf i).toNat)
  case atStart => exact ⟨0, rfl, by omega, rfl⟩
  case round =>
    obtain ⟨k, rfl, hk, HD⟩ := hrel
    by_cases hlt : k < s.size
    · have g1 : (k : Int) < s.size := by omega
      have hon := pl_on s k hlt
      by_cases h1 : s[k].toNat < 32
      · have c1 : (s[k].toNat : Int) < 32 := by omega
        have HQ := Lib.hid (show res = false by rw [HE.out, ← HD.out, hon, show okC s[k].toNat = false by simp [okC, h1]]; rfl)
        clear hon
        go_wp2_with fail
        go_ret
        exact ⟨ret_bool HQ.out.symm, rfl⟩
      · have c1 : ¬ (s[k].toNat : Int) < 32 := by omega
        by_cases h2 : s[k].toNat = 59
        · have c2 : ((s[k].toNat : Int) == 59) = true := by simp; omega
          have HQ := Lib.hid (show res = false by rw [HE.out, ← HD.out, hon, show okC s[k].toNat = false by simp [okC, h2]]; rfl)
          clear hon h2
          go_wp2_with fail
          go_ret
          exact ⟨ret_bool HQ.out.symm, rfl⟩
        · have c2 : ((s[k].toNat : Int) == 59) = false := by simp; omega
          by_cases h3 : s[k].toNat = 35
          · have c3 : ((s[k].toNat : Int) == 35) = true := by simp; omega
            have HQ := Lib.hid (show res = false by rw [HE.out, ← HD.out, hon, show okC s[k].toNat = false by simp [okC, h3]]; rfl)
            clear hon h3 h2
            go_wp2_with fail
            go_ret
            exact ⟨ret_bool HQ.out.symm, rfl⟩
          · have c3 : ((s[k].toNat : Int) == 35) = false := by simp; omega
            have HQ := Lib.hid (show ((s.data.toList.drop (k + 1)).all fun c => okC c.toNat) = s.data.toList.all fun c => okC c.toNat by rw [← HD.out, hon, show okC s[k].toNat = true by simp [okC, h1, h2, h3], Bool.true_and])
            clear hon h3 h2
            go_wp2_with fail
            go_round
            case rel => exact ⟨k + 1, by go_num, by omega, HQ.out⟩
            case measure => simp [intOf]; omega
    · have g1 : ¬ (k : Int) < s.size := by omega
      have HQ := Lib.hid (show res = (decide (s.size ≤ 100) && (!bp && !bs)) by rw [HE.out, ← HD.out, lst_end s k (by omega)]; rfl)
      clear HE HD
      by_cases h1 : s.size ≤ 100
      · have c1 : (s.size : Int) ≤ 100 := by omega
        cases bp with
        | true =>
          go_wp2_with (go_at_call 78; refine (HP.out _).mono ?_; rintro e w1 ⟨rfl, rfl⟩)
          go_ret
          exact ⟨ret_bool (by rw [HQ.out]; simp), rfl⟩
        | false =>
          cases bs with
          | true =>
            go_wp2_with (first
              | (go_at_call 78; refine (HP.out _).mono ?_; rintro e w1 ⟨rfl, rfl⟩)
              | (go_at_call 79; refine (HU.out _).mono ?_; rintro e w2 ⟨rfl, rfl⟩))
            go_ret
            exact ⟨ret_bool (by rw [HQ.out]; simp), rfl⟩
          | false =>
            go_wp2_with (first
              | (go_at_call 78; refine (HP.out _).mono ?_; rintro e w1 ⟨rfl, rfl⟩)
              | (go_at_call 79; refine (HU.out _).mono ?_; rintro e w2 ⟨rfl, rfl⟩))
            go_ret
            exact ⟨ret_bool (by rw [HQ.out]; simp [h1]), rfl⟩
      · have c1 : ¬ (s.size : Int) ≤ 100 := by omega
        go_wp2_with fail
        go_ret
        exact ⟨ret_bool (by rw [HQ.out]; simp [h1]), rfl⟩

set_option maxRecDepth 100000 in
set_option maxHeartbeats 4000000 in
theorem inrange_any (f t c : Int) (n g k : ByteArray) (A : Option Addr) (p : Nat) (l : List Int) (w : World) (hl : Ints .i32 w A l) :
    Calls Tryd.prog 33 #[.agg #[.int .i32 f, .int .i32 t, .string n, .string g, .int .i64 c, .string k, .slice A l.length p]] w fun e w' => e = .returned (.bool (rngB f t c l)) ∧ Below w.heap.size w w' := by
  have D := Lib.hid ((Below.refl w.heap.size w).alloc (Nat.le_refl _) (.cells #[.int .i32 f, .int .i32 t, .string n, .string g, .int .i64 c, .string k, .slice A l.length p] 33))
  have HL := Lib.hid (hl.below D.out)
  clear hl
  have HE := Lib.hid (show rngB f t c l = (scal f && (scal t && (decide (f ≤ t) && (decide (0 ≤ c) && (decide (c ≤ 254) && (decide (l.length ≤ 18) && l.all scal)))))) from rfl)
  generalize rngB f t c l = res at *
  cases s1 : scal f with
  | false =>
    have Ks1 := Lib.hid s1
    go_enter Tryd.func33, Tryd.ntmps33
    go_wp2_with (first | (go_at_call 15; refine (scalar_any _ _).mono ?_; rintro e w1 ⟨rfl, rfl⟩))
    go_ret
    exact ⟨ret_bool (by rw [HE.out, Ks1.out]; simp), D.out⟩
  | true =>
    have Ks1 := Lib.hid s1
    cases s2 : scal t with
    | false =>
      have Ks2 := Lib.hid s2
      go_enter Tryd.func33, Tryd.ntmps33
      go_wp2_with (first | (go_at_call 15; refine (scalar_any _ _).mono ?_; rintro e w1 ⟨rfl, rfl⟩))
      go_ret
      exact ⟨ret_bool (by rw [HE.out, Ks1.out, Ks2.out]; simp), D.out⟩
    | true =>
      have Ks2 := Lib.hid s2
      by_cases q3 : f ≤ t
      · have Kq3 := Lib.hid (decide_eq_true q3)
        by_cases q4 : 0 ≤ c
        · have Kq4 := Lib.hid (decide_eq_true q4)
          by_cases q5 : c ≤ 254
          · have Kq5 := Lib.hid (decide_eq_true q5)
            by_cases q6 : l.length ≤ 18
            · have Kq6 := Lib.hid (decide_eq_true q6)
              have g6 : (l.length : Int) ≤ 18 := by omega
              have hC := contains_any A p l _ HL.out (by omega)
              cases s7 : l.all scal with
              | false =>
                have Ks7 := Lib.hid s7
                rw [s7] at hC
                have HC := Lib.hid (show Calls Tryd.prog 55 #[.slice A l.length p, .func (.func 56) #[] #[]] (w.alloc (.cells #[.int .i32 f, .int .i32 t, .string n, .string g, .int .i64 c, .string k, .slice A l.length p] 33)) fun e w' => e = .returned (.bool true) ∧ (w.alloc (.cells #[.int .i32 f, .int .i32 t, .string n, .string g, .int .i64 c, .string k, .slice A l.length p] 33)) = w' from hC)
                clear hC s7
                go_enter Tryd.func33, Tryd.ntmps33
                go_wp2_with (first | (go_at_call 15; refine (scalar_any _ _).mono ?_; rintro e w1 ⟨rfl, rfl⟩) | (go_at_call 55; refine HC.out.mono ?_; rintro e w2 ⟨rfl, rfl⟩))
                go_ret
                exact ⟨ret_bool (by rw [HE.out, Ks1.out, Ks2.out, Kq3.out, Kq4.out, Kq5.out, Kq6.out, Ks7.out]; simp), D.out⟩
              | true =>
                have Ks7 := Lib.hid s7
                rw [s7] at hC
                have HC := Lib.hid (show Calls Tryd.prog 55 #[.slice A l.length p, .func (.func 56) #[] #[]] (w.alloc (.cells #[.int .i32 f, .int .i32 t, .string n, .string g, .int .i64 c, .string k, .slice A l.length p] 33)) fun e w' => e = .returned (.bool false) ∧ (w.alloc (.cells #[.int .i32 f, .int .i32 t, .string n, .string g, .int .i64 c, .string k, .slice A l.length p] 33)) = w' from hC)
                clear hC s7
                go_enter Tryd.func33, Tryd.ntmps33
                go_wp2_with (first | (go_at_call 15; refine (scalar_any _ _).mono ?_; rintro e w1 ⟨rfl, rfl⟩) | (go_at_call 55; refine HC.out.mono ?_; rintro e w2 ⟨rfl, rfl⟩))
                go_ret
                exact ⟨ret_bool (by rw [HE.out, Ks1.out, Ks2.out, Kq3.out, Kq4.out, Kq5.out, Kq6.out, Ks7.out]; simp), D.out⟩
            · have Kq6 := Lib.hid (decide_eq_false q6)
              have g6 : ¬ (l.length : Int) ≤ 18 := by omega
              go_enter Tryd.func33, Tryd.ntmps33
              go_wp2_with (first | (go_at_call 15; refine (scalar_any _ _).mono ?_; rintro e w1 ⟨rfl, rfl⟩))
              go_ret
              exact ⟨ret_bool (by rw [HE.out, Ks1.out, Ks2.out, Kq3.out, Kq4.out, Kq5.out, Kq6.out]; simp), D.out⟩
          · have Kq5 := Lib.hid (decide_eq_false q5)
            go_enter Tryd.func33, Tryd.ntmps33
            go_wp2_with (first | (go_at_call 15; refine (scalar_any _ _).mono ?_; rintro e w1 ⟨rfl, rfl⟩))
            go_ret
            exact ⟨ret_bool (by rw [HE.out, Ks1.out, Ks2.out, Kq3.out, Kq4.out, Kq5.out]; simp), D.out⟩
        · have Kq4 := Lib.hid (decide_eq_false q4)
          go_enter Tryd.func33, Tryd.ntmps33
          go_wp2_with (first | (go_at_call 15; refine (scalar_any _ _).mono ?_; rintro e w1 ⟨rfl, rfl⟩))
          go_ret
          exact ⟨ret_bool (by rw [HE.out, Ks1.out, Ks2.out, Kq3.out, Kq4.out]; simp), D.out⟩
      · have Kq3 := Lib.hid (decide_eq_false q3)
        go_enter Tryd.func33, Tryd.ntmps33
        go_wp2_with (first | (go_at_call 15; refine (scalar_any _ _).mono ?_; rintro e w1 ⟨rfl, rfl⟩))
        go_ret
        exact ⟨ret_bool (by rw [HE.out, Ks1.out, Ks2.out, Kq3.out]; simp), D.out⟩
set_option maxRecDepth 100000 in
set_option maxHeartbeats 4000000 in
theorem formed_any (f t c : Int) (n g k : ByteArray) (A : Option Addr) (p m : Nat) (w : World) (hn : n.size ≤ 9223372036854775807) (hg : g.size ≤ 9223372036854775807) (hk : k.size ≤ 9223372036854775807) :
    Calls Tryd.prog 34 #[.agg #[.int .i32 f, .int .i32 t, .string n, .string g, .int .i64 c, .string k, .slice A m p]] w fun e w' => e = .returned (.bool (frmB f t n.data.toList g.data.toList k.data.toList m)) ∧ Below w.heap.size w w' := by
  have D := Lib.hid ((Below.refl w.heap.size w).alloc (Nat.le_refl _) (.cells #[.int .i32 f, .int .i32 t, .string n, .string g, .int .i64 c, .string k, .slice A m p] 33))
  have hkn : (k.data.toList ≠ []) ↔ 0 < k.size := by rw [← lst_len, List.length_pos_iff]
  have hE : frmB f t n.data.toList g.data.toList k.data.toList m = ((ltrs k.data.toList && !(decide (0 < k.size) && decide (m = 0))) && ((plB n.data.toList && plB g.data.toList) && (if f ≠ t then decide (m = 0) else !(rgN n.data.toList firstE).isSome && !(rgN n.data.toList lastE).isSome))) := by unfold frmB; simp only [hkn]
  have hL := fun W => letters_any k W hk
  have hN := fun W => pplain_any n W hn
  have hG := fun W => pplain_any g W hg
  have hF := fun W => range_name n ⟨#[44, 32, 70, 105, 114, 115, 116, 62]⟩ W hn
  rw [show (⟨#[44, 32, 70, 105, 114, 115, 116, 62]⟩ : ByteArray).data.toList = firstE from rfl] at hF
  have hS := fun W => range_name n ⟨#[44, 32, 76, 97, 115, 116, 62]⟩ W hn
  rw [show (⟨#[44, 32, 76, 97, 115, 116, 62]⟩ : ByteArray).data.toList = lastE from rfl] at hS
  unfold rgV at hF hS
  generalize frmB f t n.data.toList g.data.toList k.data.toList m = res at *
  generalize ltrs k.data.toList = bk at *
  generalize plB n.data.toList = bn at *
  generalize plB g.data.toList = bg at *
  generalize rgN n.data.toList firstE = o1 at *
  generalize rgN n.data.toList lastE = o2 at *
  obtain ⟨x1, hx1⟩ : ∃ x1 : ByteArray, x1 = ⟨(o1.getD []).toArray⟩ := ⟨_, rfl⟩
  obtain ⟨x2, hx2⟩ : ∃ x2 : ByteArray, x2 = ⟨(o2.getD []).toArray⟩ := ⟨_, rfl⟩
  rw [← hx1] at hF
  rw [← hx2] at hS
  generalize o1.isSome = b1 at *
  generalize o2.isSome = b2 at *
  have HE := Lib.hid hE
  have HL := Lib.hid hL
  have HN := Lib.hid hN
  have HG := Lib.hid hG
  have HF := Lib.hid hF
  have HS := Lib.hid hS
  clear hE hL hN hG hF hS hx1 hx2 hkn o1 o2
  cases bk with
  | false =>
    go_enter Tryd.func34, Tryd.ntmps34
    go_wp2_with (first | (go_at_call 57; refine (HL.out _).mono ?_; rintro e w1 ⟨rfl, rfl⟩))
    go_ret
    exact ⟨ret_bool (by rw [HE.out]; simp), D.out⟩
  | true =>
    by_cases hk0 : 0 < k.size
    · have he := emp_no hk0
      have hne := emp_ne hk0
      have KK := Lib.hid (decide_eq_true hk0)
      rw [KK.out] at HE
      cases m with
      | zero =>
        go_enter Tryd.func34, Tryd.ntmps34
        go_wp2_with (first | (go_at_call 57; refine (HL.out _).mono ?_; rintro e w1 ⟨rfl, rfl⟩))
        go_ret
        exact ⟨ret_bool (by rw [HE.out]; simp), D.out⟩
      | succ m =>
        have eL : ((((m + 1 : Nat) : Int)) == 0) = false := by simp; omega
        have eL2 : (((m : Int) + 1) == 0) = false := by simp; omega
        cases bn with
        | false =>
          go_enter Tryd.func34, Tryd.ntmps34
          go_wp2_with (first | (go_at_call 57; refine (HL.out _).mono ?_; rintro e w1 ⟨rfl, rfl⟩) | (go_at_call 58; (with_reducible refine (HN.out _).mono ?_); rintro e w1 ⟨rfl, rfl⟩))
          go_ret
          exact ⟨ret_bool (by rw [HE.out]; simp), D.out⟩
        | true =>
          cases bg with
          | false =>
            go_enter Tryd.func34, Tryd.ntmps34
            go_wp2_with (first | (go_at_call 57; refine (HL.out _).mono ?_; rintro e w1 ⟨rfl, rfl⟩) | (go_at_call 58; (with_reducible refine (HN.out _).mono ?_); rintro e w1 ⟨rfl, rfl⟩) | (go_at_call 58; (with_reducible refine (HG.out _).mono ?_); rintro e w1 ⟨rfl, rfl⟩))
            go_ret
            exact ⟨ret_bool (by rw [HE.out]; simp), D.out⟩
          | true =>
            by_cases hft : f = t
            · subst hft
              have ef : (f != f) = false := by simp
              cases b1 with
              | true =>
                go_enter Tryd.func34, Tryd.ntmps34
                go_wp2_with (first | (go_at_call 57; refine (HL.out _).mono ?_; rintro e w1 ⟨rfl, rfl⟩) | (go_at_call 58; (with_reducible refine (HN.out _).mono ?_); rintro e w1 ⟨rfl, rfl⟩) | (go_at_call 58; (with_reducible refine (HG.out _).mono ?_); rintro e w1 ⟨rfl, rfl⟩) | (go_at_call 20; (with_reducible refine (HF.out _).mono ?_); rintro e w1 ⟨rfl, rfl⟩) | (go_at_call 20; (with_reducible refine (HS.out _).mono ?_); rintro e w1 ⟨rfl, rfl⟩))
                go_ret
                exact ⟨ret_bool (by rw [HE.out]; simp), D.out⟩
              | false =>
                cases b2 with
                | true =>
                  go_enter Tryd.func34, Tryd.ntmps34
                  go_wp2_with (first | (go_at_call 57; refine (HL.out _).mono ?_; rintro e w1 ⟨rfl, rfl⟩) | (go_at_call 58; (with_reducible refine (HN.out _).mono ?_); rintro e w1 ⟨rfl, rfl⟩) | (go_at_call 58; (with_reducible refine (HG.out _).mono ?_); rintro e w1 ⟨rfl, rfl⟩) | (go_at_call 20; (with_reducible refine (HF.out _).mono ?_); rintro e w1 ⟨rfl, rfl⟩) | (go_at_call 20; (with_reducible refine (HS.out _).mono ?_); rintro e w1 ⟨rfl, rfl⟩))
                  go_ret
                  exact ⟨ret_bool (by rw [HE.out]; simp), D.out⟩
                | false =>
                  go_enter Tryd.func34, Tryd.ntmps34
                  go_wp2_with (first | (go_at_call 57; refine (HL.out _).mono ?_; rintro e w1 ⟨rfl, rfl⟩) | (go_at_call 58; (with_reducible refine (HN.out _).mono ?_); rintro e w1 ⟨rfl, rfl⟩) | (go_at_call 58; (with_reducible refine (HG.out _).mono ?_); rintro e w1 ⟨rfl, rfl⟩) | (go_at_call 20; (with_reducible refine (HF.out _).mono ?_); rintro e w1 ⟨rfl, rfl⟩) | (go_at_call 20; (with_reducible refine (HS.out _).mono ?_); rintro e w1 ⟨rfl, rfl⟩))
                  go_ret
                  exact ⟨ret_bool (by rw [HE.out]; simp), D.out⟩
            · have ef : (f != t) = true := by simpa using hft
              go_enter Tryd.func34, Tryd.ntmps34
              go_wp2_with (first | (go_at_call 57; refine (HL.out _).mono ?_; rintro e w1 ⟨rfl, rfl⟩) | (go_at_call 58; (with_reducible refine (HN.out _).mono ?_); rintro e w1 ⟨rfl, rfl⟩) | (go_at_call 58; (with_reducible refine (HG.out _).mono ?_); rintro e w1 ⟨rfl, rfl⟩))
              go_ret
              exact ⟨ret_bool (by rw [HE.out]; simp [hft]), D.out⟩
    · have KK := Lib.hid (decide_eq_false hk0)
      rw [KK.out] at HE
      clear KK
      obtain rfl := emp_yes (show k.size = 0 by omega)
      cases bn with
      | false =>
        go_enter Tryd.func34, Tryd.ntmps34
        go_wp2_with (first | (go_at_call 57; refine (HL.out _).mono ?_; rintro e w1 ⟨rfl, rfl⟩) | (go_at_call 58; (with_reducible refine (HN.out _).mono ?_); rintro e w1 ⟨rfl, rfl⟩))
        go_ret
        exact ⟨ret_bool (by rw [HE.out]; simp), D.out⟩
      | true =>
        cases bg with
        | false =>
          go_enter Tryd.func34, Tryd.ntmps34
          go_wp2_with (first | (go_at_call 57; refine (HL.out _).mono ?_; rintro e w1 ⟨rfl, rfl⟩) | (go_at_call 58; (with_reducible refine (HN.out _).mono ?_); rintro e w1 ⟨rfl, rfl⟩) | (go_at_call 58; (with_reducible refine (HG.out _).mono ?_); rintro e w1 ⟨rfl, rfl⟩))
          go_ret
          exact ⟨ret_bool (by rw [HE.out]; simp), D.out⟩
        | true =>
          by_cases hft : f = t
          · subst hft
            have ef : (f != f) = false := by simp
            cases b1 with
            | true =>
              go_enter Tryd.func34, Tryd.ntmps34
              go_wp2_with (first | (go_at_call 57; refine (HL.out _).mono ?_; rintro e w1 ⟨rfl, rfl⟩) | (go_at_call 58; (with_reducible refine (HN.out _).mono ?_); rintro e w1 ⟨rfl, rfl⟩) | (go_at_call 58; (with_reducible refine (HG.out _).mono ?_); rintro e w1 ⟨rfl, rfl⟩) | (go_at_call 20; (with_reducible refine (HF.out _).mono ?_); rintro e w1 ⟨rfl, rfl⟩) | (go_at_call 20; (with_reducible refine (HS.out _).mono ?_); rintro e w1 ⟨rfl, rfl⟩))
              go_ret
              exact ⟨ret_bool (by rw [HE.out]; simp), D.out⟩
            | false =>
              cases b2 with
              | true =>
                go_enter Tryd.func34, Tryd.ntmps34
                go_wp2_with (first | (go_at_call 57; refine (HL.out _).mono ?_; rintro e w1 ⟨rfl, rfl⟩) | (go_at_call 58; (with_reducible refine (HN.out _).mono ?_); rintro e w1 ⟨rfl, rfl⟩) | (go_at_call 58; (with_reducible refine (HG.out _).mono ?_); rintro e w1 ⟨rfl, rfl⟩) | (go_at_call 20; (with_reducible refine (HF.out _).mono ?_); rintro e w1 ⟨rfl, rfl⟩) | (go_at_call 20; (with_reducible refine (HS.out _).mono ?_); rintro e w1 ⟨rfl, rfl⟩))
                go_ret
                exact ⟨ret_bool (by rw [HE.out]; simp), D.out⟩
              | false =>
                go_enter Tryd.func34, Tryd.ntmps34
                go_wp2_with (first | (go_at_call 57; refine (HL.out _).mono ?_; rintro e w1 ⟨rfl, rfl⟩) | (go_at_call 58; (with_reducible refine (HN.out _).mono ?_); rintro e w1 ⟨rfl, rfl⟩) | (go_at_call 58; (with_reducible refine (HG.out _).mono ?_); rintro e w1 ⟨rfl, rfl⟩) | (go_at_call 20; (with_reducible refine (HF.out _).mono ?_); rintro e w1 ⟨rfl, rfl⟩) | (go_at_call 20; (with_reducible refine (HS.out _).mono ?_); rintro e w1 ⟨rfl, rfl⟩))
                go_ret
                exact ⟨ret_bool (by rw [HE.out]; simp), D.out⟩
          · have ef : (f != t) = true := by simpa using hft
            cases m with
            | zero =>
              go_enter Tryd.func34, Tryd.ntmps34
              go_wp2_with (first | (go_at_call 57; refine (HL.out _).mono ?_; rintro e w1 ⟨rfl, rfl⟩) | (go_at_call 58; (with_reducible refine (HN.out _).mono ?_); rintro e w1 ⟨rfl, rfl⟩) | (go_at_call 58; (with_reducible refine (HG.out _).mono ?_); rintro e w1 ⟨rfl, rfl⟩))
              go_ret
              exact ⟨ret_bool (by rw [HE.out]; simp [hft]), D.out⟩
            | succ m =>
              have eL : ((((m + 1 : Nat) : Int)) == 0) = false := by simp; omega
              have eL2 : (((m : Int) + 1) == 0) = false := by simp; omega
              go_enter Tryd.func34, Tryd.ntmps34
              go_wp2_with (first | (go_at_call 57; refine (HL.out _).mono ?_; rintro e w1 ⟨rfl, rfl⟩) | (go_at_call 58; (with_reducible refine (HN.out _).mono ?_); rintro e w1 ⟨rfl, rfl⟩) | (go_at_call 58; (with_reducible refine (HG.out _).mono ?_); rintro e w1 ⟨rfl, rfl⟩))
              go_ret
              exact ⟨ret_bool (by rw [HE.out]; simp [hft]), D.out⟩
theorem check_any (f t c : Int) (n g k : ByteArray) (A : Option Addr) (p : Nat) (l : List Int) (w : World) (hl : Ints .i32 w A l) (hn : n.size ≤ 9223372036854775807) (hg : g.size ≤ 9223372036854775807) (hk : k.size ≤ 9223372036854775807) :
    Calls Tryd.prog 14 #[.agg #[.int .i32 f, .int .i32 t, .string n, .string g, .int .i64 c, .string k, .slice A l.length p]] w fun e w' => e = .returned (.int .i64 (chkE ⟨f, t, n.data.toList, g.data.toList, c, k.data.toList, l⟩)) ∧ Below w.heap.size w w' := by
  have D := Lib.hid ((Below.refl w.heap.size w).alloc (Nat.le_refl _) (.cells #[.int .i32 f, .int .i32 t, .string n, .string g, .int .i64 c, .string k, .slice A l.length p] 33))
  have h1 := inrange_any f t c n g k A p l (w.alloc (.cells #[.int .i32 f, .int .i32 t, .string n, .string g, .int .i64 c, .string k, .slice A l.length p] 33)) (hl.below D.out)
  have h2 := fun W => formed_any f t c n g k A p l.length W hn hg hk
  have hE : chkE ⟨f, t, n.data.toList, g.data.toList, c, k.data.toList, l⟩ = if rngB f t c l = false then 11 else if frmB f t n.data.toList g.data.toList k.data.toList l.length = false then 10 else 0 := rfl
  have BK := Lib.hid (show Bk (w.alloc (.cells #[.int .i32 f, .int .i32 t, .string n, .string g, .int .i64 c, .string k, .slice A l.length p] 33)) w.heap.size [.int .i32 f, .int .i32 t, .string n, .string g, .int .i64 c, .string k, .slice A l.length p] 33 from ⟨heap_alloc_new w _⟩)
  generalize rngB f t c l = b1 at *
  generalize frmB f t n.data.toList g.data.toList k.data.toList l.length = b2 at *
  generalize chkE ⟨f, t, n.data.toList, g.data.toList, c, k.data.toList, l⟩ = res at *
  have H1 := Lib.hid h1
  have H2 := Lib.hid h2
  have HE := Lib.hid hE
  clear h1 h2 hE hl
  cases b1 with
  | false =>
    go_enter Tryd.func14, Tryd.ntmps14
    go_wp2_with (go_at_call 33; refine H1.out.mono ?_; rintro e w1 ⟨rfl, hb⟩; have B1 := Lib.hid hb; clear hb)
    go_ret
    exact ⟨ret_int (by rw [HE.out]; rfl), D.out.trans (B1.out.mono D.out.size)⟩
  | true =>
    cases b2 with
    | false =>
      go_enter Tryd.func14, Tryd.ntmps14
      go_wp2_with (first
        | (go_at_call 33; refine H1.out.mono ?_; rintro e w1 ⟨rfl, hb⟩; have B1 := Lib.hid hb; have K1 := BK.out.below hb; have a0 := K1.c (i := 0) rfl; have a1 := K1.c (i := 1) rfl; have a2 := K1.c (i := 2) rfl; have a3 := K1.c (i := 3) rfl; have a4 := K1.c (i := 4) rfl; have a5 := K1.c (i := 5) rfl; have a6 := K1.c (i := 6) rfl; clear hb K1)
        | (go_at_call 34; refine (H2.out _).mono ?_; rintro e w2 ⟨rfl, hb⟩; have B2 := Lib.hid hb; clear hb))
      go_ret
      exact ⟨ret_int (by rw [HE.out]; rfl), (D.out.trans (B1.out.mono D.out.size)).trans (B2.out.mono (D.out.trans (B1.out.mono D.out.size)).size)⟩
    | true =>
      go_enter Tryd.func14, Tryd.ntmps14
      go_wp2_with (first
        | (go_at_call 33; refine H1.out.mono ?_; rintro e w1 ⟨rfl, hb⟩; have B1 := Lib.hid hb; have K1 := BK.out.below hb; have a0 := K1.c (i := 0) rfl; have a1 := K1.c (i := 1) rfl; have a2 := K1.c (i := 2) rfl; have a3 := K1.c (i := 3) rfl; have a4 := K1.c (i := 4) rfl; have a5 := K1.c (i := 5) rfl; have a6 := K1.c (i := 6) rfl; clear hb K1)
        | (go_at_call 34; refine (H2.out _).mono ?_; rintro e w2 ⟨rfl, hb⟩; have B2 := Lib.hid hb; clear hb))
      go_ret
      exact ⟨ret_int (by rw [HE.out]; rfl), (D.out.trans (B1.out.mono D.out.size)).trans (B2.out.mono (D.out.trans (B1.out.mono D.out.size)).size)⟩

end Go.Proofs.YtajhgbcgbgpcjaaDoor.Uc
