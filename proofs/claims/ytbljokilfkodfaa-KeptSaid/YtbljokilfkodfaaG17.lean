/-
  The program's book: comparing prices; the sides.
-/
import Derived.Test.YtbljokilfkodfaaG5
import Derived.Test.YtbljokilfkodfaaG15
import Derived.Test.YtbljokilfkodfaaG3
import Derived.Test.YtbljokilfkodfaaG16
import Derived.Defers
import Derived.Laws.Pointers
import Derived.Laws.LoneSync
import Derived.RegionTactic
import Derived.RegionCalls
import Derived.ChangeAlike
import Derived.Laws.NewBlocks
namespace Go.Proofs.Ytbljokilfkodfaa
open Go.RowKit

def cmp3 (x y : Int) : Int := if x < y then -1 else if y < x then 1 else 0
/-- A price's key on a side: the better, the less. -/
def keyOf' (sd p : Int) : Int := if sd = 1 then -p else p
def cmpS (sd x y : Int) : Int := if sd = 1 then cmp3 y x else cmp3 x y
theorem cmpS_lt (sd x y : Int) : cmpS sd x y < 0 ↔ keyOf' sd x < keyOf' sd y := by
  unfold cmpS keyOf' cmp3
  by_cases h : sd = 1
  · simp only [if_pos h]; split <;> (try split) <;> omega
  · simp only [if_neg h]; split <;> (try split) <;> omega
theorem cmpS_le (sd x y : Int) : cmpS sd x y ≤ 0 ↔ keyOf' sd x ≤ keyOf' sd y := by
  unfold cmpS keyOf' cmp3
  by_cases h : sd = 1
  · simp only [if_pos h]; split <;> (try split) <;> omega
  · simp only [if_neg h]; split <;> (try split) <;> omega

set_option maxRecDepth 100000 in
set_option maxHeartbeats 1000000 in
theorem isNaN_any (x : Int) (w : World) : Calls Try.prog 106 #[.int .i64 x] w fun e w' => e = .returned (.bool false) ∧ w' = w := by
  have h : (x != x) = false := by simp
  go_enter Try.func106, Try.ntmps106
  go_wp2
  go_ret
  simp
set_option maxRecDepth 100000 in
set_option maxHeartbeats 1000000 in
theorem compare_any (x y : Int) (w : World) : Calls Try.prog 85 #[.int .i64 x, .int .i64 y] w fun e w' => e = .returned (.int .i64 (cmp3 x y)) ∧ w' = w := by
  unfold cmp3
  go_enter Try.func85, Try.ntmps85
  go_wp2_with (go_at_call 106; refine (isNaN_any _ _).mono ?_; rintro e w' ⟨rfl, rfl⟩)
  all_goals go_ret
  all_goals (refine ⟨ret_int ?_, rfl⟩; first | rfl | (rw [if_pos (by omega)]; done) | (rw [if_neg (by omega), if_pos (by omega)]; done) | (rw [if_neg (by omega), if_neg (by omega)]; done))

set_option maxRecDepth 100000 in
set_option maxHeartbeats 1000000 in
theorem hcompare_any (b o : Nat) (sd x y : Int) (w : World) (h : w.cell? ⟨b, o, none⟩ = some (.int .i64 sd)) :
    Calls Try.prog 66 #[.pointer (some ⟨b, o, none⟩), .int .i64 x, .int .i64 y] w fun e w' => e = .returned (.int .i64 (cmpS sd x y)) ∧ w' = w := by
  unfold cmpS
  by_cases hs : sd = 1
  · have hb : (sd == 1) = true := by simp [hs]
    rw [if_pos hs]
    go_enter Try.func66, Try.ntmps66
    go_wp2_with (go_at_call 85; refine (compare_any _ _ _).mono ?_; rintro e w' ⟨rfl, rfl⟩)
    go_ret
    exact ⟨rfl, rfl⟩
  · have hb : (sd == 1) = false := by simp [hs]
    rw [if_neg hs]
    go_enter Try.func66, Try.ntmps66
    go_wp2_with (go_at_call 85; refine (compare_any _ _ _).mono ?_; rintro e w' ⟨rfl, rfl⟩)
    go_ret
    exact ⟨rfl, rfl⟩

set_option maxRecDepth 100000 in
set_option maxHeartbeats 1000000 in
theorem allows_any (b o : Nat) (sd x y : Int) (w : World) (h : w.cell? ⟨b, o, none⟩ = some (.int .i64 sd)) :
    Calls Try.prog 93 #[.pointer (some ⟨b, o, none⟩), .int .i64 x, .int .i64 y] w fun e w' => e = .returned (.bool (decide (keyOf' sd y ≤ keyOf' sd x))) ∧ w' = w := by
  go_enter Try.func93, Try.ntmps93
  go_wp2_with (go_at_call 66; refine (hcompare_any _ _ sd _ _ _ h).mono ?_; rintro e w' ⟨rfl, rfl⟩)
  go_ret
  simp [cmpS_le]

set_option maxRecDepth 100000 in
set_option maxHeartbeats 1000000 in
theorem half_any (b : Nat) (sd : Int) (w : World) :
    Calls Try.prog 61 #[.pointer (some ⟨b, 0, none⟩), .int .i64 sd] w fun e w' => e = .returned (.pointer (some ⟨b, if sd = 1 then 1 else 3, none⟩)) ∧ w' = w := by
  by_cases hs : sd = 1
  · have hb : (sd == 1) = true := by simp [hs]
    rw [if_pos hs]
    go_enter Try.func61, Try.ntmps61
    go_wp2
    go_ret
    exact ⟨rfl, rfl⟩
  · have hb : (sd == 1) = false := by simp [hs]
    rw [if_neg hs]
    go_enter Try.func61, Try.ntmps61
    go_wp2
    go_ret
    exact ⟨rfl, rfl⟩
theorem other_any (sd : Int) (w : World) :
    Calls Try.prog 77 #[.int .i64 sd] w fun e w' => e = .returned (.int .i64 (if sd = 1 then 2 else 1)) ∧ w' = w := by
  by_cases hs : sd = 1
  · have hb : (sd == 1) = true := by simp [hs]
    rw [if_pos hs]
    go_enter Try.func77, Try.ntmps77
    go_wp2
    go_ret
    exact ⟨rfl, rfl⟩
  · have hb : (sd == 1) = false := by simp [hs]
    rw [if_neg hs]
    go_enter Try.func77, Try.ntmps77
    go_wp2
    go_ret
    exact ⟨rfl, rfl⟩
end Go.Proofs.Ytbljokilfkodfaa
/-
  sync.Once, one goroutine: its parts.
-/
namespace Go.Proofs.Ytbljokilfkodfaa
open Go.RowKit

theorem disable (w : World) : (callFunc 134 #[]).run Try.prog w = .ok (.value (.tuple #[])) w := run_call_mark0 Try.func134 (by kernel_rfl) (by kernel_rfl) (by kernel_rfl) .disable (by kernel_rfl) w
theorem enable (w : World) : (callFunc 136 #[]).run Try.prog w = .ok (.value (.tuple #[])) w := run_call_mark0 Try.func136 (by kernel_rfl) (by kernel_rfl) (by kernel_rfl) .enable (by kernel_rfl) w
theorem acquire (a : Addr) (w : World) : (callFunc 137 #[.pointer (some a)]).run Try.prog w = .ok (.value (.tuple #[])) w := run_call_marked Try.func137 (by kernel_rfl) (by kernel_rfl) (by kernel_rfl) .acquire (by kernel_rfl) a w
theorem releaseMerge (a : Addr) (w : World) : (callFunc 139 #[.pointer (some a)]).run Try.prog w = .ok (.value (.tuple #[])) w := run_call_marked Try.func139 (by kernel_rfl) (by kernel_rfl) (by kernel_rfl) .releaseMerge (by kernel_rfl) a w

theorem store_deferred (a : Addr) (x : Value) (u : FrameMode) (w : World) (hc : w.cell? a = some x) (hz : w.frozen? a = false) :
    CallsD Try.prog 124 #[.pointer (some a), .bool true] u w fun e u' w' => u' = u ∧ (e = .returned (.tuple #[]) ∧ w' = w.drew.setCell a (.int .u32 1)) := by
  have hc' : w.drew.cell? a = some x := by go_simp
  have hz' : w.drew.frozen? a = false := by go_simp
  have hst := run_call_store (P := Try.prog) Try.func132 (by kernel_rfl) (by kernel_rfl) (by kernel_rfl) (by kernel_rfl) (k := .u32) (y := 1) hc' hz'
  go_enter_d Try.func124, Try.ntmps124
  go_wp2
  go_region_calls
  all_goals (go_end0; exact ⟨rfl, rfl⟩)

set_option maxRecDepth 100000 in
theorem unlock_deferred (a : Addr) (u : FrameMode) (w : World) (hc : w.cell? a = some (.int .i32 1)) (hz : w.frozen? a = false) :
    CallsD Try.prog 123 #[.pointer (some a)] u w fun e u' w' => u' = u ∧ (e = .returned (.tuple #[]) ∧ w' = w.setCell a (.int .i32 0)) := by
  have hd := disable
  have he := enable
  have hr := releaseMerge
  have hadd := run_call_add (P := Try.prog) Try.func140 (by kernel_rfl) (by kernel_rfl) (by kernel_rfl) .i32 (by kernel_rfl) (y := -1) (s := 0) hc hz (by simp [go_sem]; rfl)
  have hcv := run_convert_to_unsafe (P := Try.prog) (src := 196) (dst := 200) Try.underlying196 Try.underlying200 (by kernel_rfl) hc
  go_enter_d Try.func123, Try.ntmps123
  go_wp2
  go_end0
  go_wp2
  go_end0
  exact ⟨rfl, rfl⟩

set_option maxRecDepth 100000 in
theorem lock_free (a : Addr) (w : World) (hc : w.cell? a = some (.int .i32 0)) (hz : w.frozen? a = false) :
    Calls Try.prog 122 #[.pointer (some a)] w fun e w' => e = .returned (.tuple #[]) ∧ w' = w.setCell a (.int .i32 1) := by
  have hd := disable
  have he := enable
  have ha := acquire
  have hcas := run_call_cas_hit (P := Try.prog) Try.func135 (by kernel_rfl) (by kernel_rfl) (by kernel_rfl) .i32 (by kernel_rfl) (y := 1) hc hz
  have hc' : (w.setCell a (.int .i32 1)).cell? a = some (.int .i32 1) := World.cell?_setCell_same w a _ hc
  have hcv := run_convert_to_unsafe (P := Try.prog) (src := 196) (dst := 200) Try.underlying196 Try.underlying200 (by kernel_rfl) hc'
  go_enter Try.func122, Try.ntmps122
  go_wp2
  first | go_end0 | (simp only [Exit.inBlock, Exit.then]; refine bodyPost_ret (results_none rfl _ _ _) rfl ?_) | refine bodyPost_ret (results_none rfl _ _ _) rfl ?_
  go_wp2
  go_end0
  exact ⟨rfl, rfl⟩

/-- The table of sums with its Once, in block b: done, the lock's state, the words. -/
structure TabIs (w : World) (b : Nat) (d s : Int) (W : Nat → Nat) : Prop where
  lt : b < w.heap.size
  done : w.cell? ⟨b, 0, none⟩ = some (.int .u32 d)
  state : w.cell? ⟨b, 1, none⟩ = some (.int .i32 s)
  words : ∀ i, i < 16 → w.cell? ⟨b, 3 + i, none⟩ = some (.int .u32 (W i : Int))
  soft : ∀ j, w.frozen? ⟨b, j, none⟩ = false

theorem TabIs.keep {w w' : World} {b : Nat} {d s : Int} {W : Nat → Nat} {T : Nat → Prop} (h : TabIs w b d s W) (o : Only T w w') (hT : ¬ T b) : TabIs w' b d s W :=
  ⟨Nat.lt_of_lt_of_le h.lt o.size, (o.cell h.lt hT).trans h.done, (o.cell h.lt hT).trans h.state, fun i hi => (o.cell h.lt hT).trans (h.words i hi), fun j => (o.frozen h.lt hT).trans (h.soft j)⟩

theorem only_set (w : World) (b o : Nat) (v : Value) : Only (fun k => k = b) w (w.setCell ⟨b, o, none⟩ v) :=
  ⟨rfl, rfl, rfl, by simp [World.setCell], fun k _ hk => Below.heap_setCell _ _ _ _ hk⟩

theorem TabIs.setDone {w : World} {b : Nat} {d s : Int} {W : Nat → Nat} (h : TabIs w b d s W) (d' : Int) : TabIs (w.setCell ⟨b, 0, none⟩ (.int .u32 d')) b d' s W :=
  ⟨by simp [World.setCell]; exact h.lt, World.cell?_setCell_same _ _ _ h.done, (World.cell?_setCell_other _ ⟨b, 0, none⟩ ⟨b, 1, none⟩ _ (by simp)).trans h.state, fun i hi => (World.cell?_setCell_other _ ⟨b, 0, none⟩ ⟨b, 3 + i, none⟩ _ (by simp)).trans (h.words i hi), fun j => by simp [h.soft j]⟩
theorem TabIs.setState {w : World} {b : Nat} {d s : Int} {W : Nat → Nat} (h : TabIs w b d s W) (s' : Int) : TabIs (w.setCell ⟨b, 1, none⟩ (.int .i32 s')) b d s' W :=
  ⟨by simp [World.setCell]; exact h.lt, (World.cell?_setCell_other _ ⟨b, 1, none⟩ ⟨b, 0, none⟩ _ (by simp)).trans h.done, World.cell?_setCell_same _ _ _ h.state, fun i hi => (World.cell?_setCell_other _ ⟨b, 1, none⟩ ⟨b, 3 + i, none⟩ _ (by simp)).trans (h.words i hi), fun j => by simp [h.soft j]⟩
theorem TabIs.setWord {w : World} {b : Nat} {d s : Int} {W : Nat → Nat} (h : TabIs w b d s W) (i n : Nat) (hi : i < 16) : TabIs (w.setCell ⟨b, 3 + i, none⟩ (.int .u32 (n : Int))) b d s (fun j => if j = i then n else W j) := by
  refine ⟨by simp [World.setCell]; exact h.lt, (World.cell?_setCell_other _ ⟨b, 3 + i, none⟩ ⟨b, 0, none⟩ _ (by simp)).trans h.done, (World.cell?_setCell_other _ ⟨b, 3 + i, none⟩ ⟨b, 1, none⟩ _ (by simp)).trans h.state, fun j hj => ?_, fun j => by simp [h.soft j]⟩
  by_cases e : j = i
  · subst e; simp only [if_true]; exact World.cell?_setCell_same _ _ _ (h.words j hj)
  · simp only [if_neg e]; exact (World.cell?_setCell_other _ ⟨b, 3 + i, none⟩ ⟨b, 3 + j, none⟩ _ (by first | (simp; done) | (simp; omega))).trans (h.words j hj)
theorem TabIs.drew {w : World} {b : Nat} {d s : Int} {W : Nat → Nat} (h : TabIs w b d s W) : TabIs w.drew b d s W := ⟨h.lt, h.done, h.state, h.words, h.soft⟩
theorem TabIs.congr {w : World} {b : Nat} {d s : Int} {W V : Nat → Nat} (h : TabIs w b d s W) (e : ∀ i, i < 16 → W i = V i) : TabIs w b d s V :=
  ⟨h.lt, h.done, h.state, fun i hi => by rw [← e i hi]; exact h.words i hi, h.soft⟩
end Go.Proofs.Ytbljokilfkodfaa
/-
  The table is filled: halve, fill.
-/
namespace Go.Proofs.Ytbljokilfkodfaa
open Go.RowKit

theorem and_15 (a : Nat) (h : a < 4294967296) : bits .and .u32 (a : Int) 15 = ((a % 16 : Nat) : Int) := by
  have e := u32_and_nat a 15 h (by omega)
  rw [show (15 : Nat) = 2 ^ 4 - 1 from rfl, Nat.and_two_pow_sub_one_eq_mod] at e
  exact e

set_option maxHeartbeats 400000 in
theorem halve_any (c : Nat) (hc : c < 4294967296) (w : World) :
    Calls Try.prog 109 #[.int .u32 (c : Int)] w fun e w' => e = .returned (.int .u32 (pStep c : Nat)) ∧ w' = w := by
  go_enter Try.func109, Try.ntmps109
  go_wp2
  · go_ret
    exact ⟨ret_int (step_odd _ hc ‹_›), rfl⟩
  · go_ret
    exact ⟨ret_int (step_even _ hc ‹_›), rfl⟩

def tabW (i : Nat) : Nat := pSteps 4 i
theorem tabW_lt (i : Nat) (h : i < 16) : tabW i < 4294967296 := pSteps_lt (by omega) 4

set_option maxHeartbeats 1000000 in
theorem fill_any (b : Nat) (d s : Int) (W : Nat → Nat) (w : World) (h : TabIs w b d s W) :
    Calls Try.prog 87 #[.pointer (some ⟨b, 0, none⟩)] w fun e w' => e = .returned (.tuple #[]) ∧ TabIs w' b d s tabW ∧ Only (fun k => k = b) w w' := by
  have H : Hid (TabIs w b d s W) := h
  clear h
  go_enter Try.func87, Try.ntmps87
  go_wp2_with fail
  go_loopw [4] (fun i wr => ∃ k : Nat, k ≤ 16 ∧ i = .int .i64 (k : Int) ∧ TabIs wr b d s (fun j => if j < k then tabW j else W j) ∧ Only (fun k => k = b) w wr) (fun i _ => 16 - (intOf i).toNat)
  case atStart => exact ⟨0, Nat.zero_le _, rfl, H.out.congr (fun i _ => by simp), Only.refl _ _⟩
  case round =>
    obtain ⟨k, hk, rfl, hT, hO⟩ := hrel
    have HT : Hid (TabIs wr b d s (fun j => if j < k then tabW j else W j)) := hT
    have HO : Hid (Only (fun k => k = b) w wr) := hO
    clear hT hO H
    by_cases hlt : k < 16
    · have hki : (k : Int) < 16 := by omega
      have hcell := HT.out.words k hlt
      have hsoft := HT.out.soft (3 + k)
      go_wp2_with fail
      go_loop [3, 9] (fun c i => ∃ j : Nat, j ≤ 4 ∧ i = .int .i64 (j : Int) ∧ c = .int .u32 (pSteps j k : Nat)) (fun _ i => 4 - (intOf i).toNat)
      case atStart => exact ⟨0, Nat.zero_le _, rfl, by go_num⟩
      case round =>
        obtain ⟨j, hj, rfl, rfl⟩ := hrel
        have hp := pSteps_lt (show k < 4294967296 by omega) j
        by_cases hj4 : j < 4
        · have hji : (j : Int) < 4 := by omega
          go_wp2_with fail
          refine (halve_any _ hp _).mono ?_
          rintro e w' ⟨rfl, rfl⟩
          go_wp2
          exact ⟨⟨j + 1, by omega, by go_num, rfl⟩, by simp [intOf]; omega⟩
        · have hji : decide ((j : Int) < 4) = false := decide_eq_false (by omega)
          have e4 : j = 4 := by omega
          subst e4
          go_wp2_with fail
          refine ⟨⟨k + 1, by omega, by go_num, (HT.out.setWord k (pSteps 4 k) hlt).congr ?_, HO.out.trans (only_set _ _ _ _)⟩, by simp [intOf]; omega⟩
          intro i hi
          by_cases h1 : i = k
          · subst h1; simp [tabW]
          · by_cases h2 : i < k
            · simp [h1, h2, show i < k + 1 by omega]
            · simp [h1, h2, show ¬ i < k + 1 by omega]
    · have hki : decide ((k : Int) < 16) = false := decide_eq_false (by omega)
      have e4 : k = 16 := by omega
      subst e4
      go_wp2
      go_end0
      exact ⟨rfl, HT.out.congr (fun i hi => by simp [hi]), HO.out⟩
end Go.Proofs.Ytbljokilfkodfaa
/-
  The Once over the table: doSlow, Do; a sum.
-/
namespace Go.Proofs.Ytbljokilfkodfaa
open Go.RowKit

theorem hnot : ∀ (x : Bool) (w : World), (Op.unary .not (.bool x)).run Try.prog w = .ok (.bool (!x)) w := fun _ _ => rfl
theorem hmf : ∀ (fn : Fn) (first cap : Array Value) (w : World), (Instr.makeFunc fn first cap).run Try.prog w = .ok (.func fn first cap) w := fun _ _ _ _ => rfl

theorem load_any (a : Addr) (d : Int) (w : World) (h : w.cell? a = some (.int .u32 d)) :
    Calls Try.prog 107 #[.pointer (some a)] w fun e w' => e = .returned (.bool (d != 0)) ∧ w' = w := by
  have hl := run_call_load (P := Try.prog) Try.func121 (by kernel_rfl) (by kernel_rfl) (by kernel_rfl) .u32 (by kernel_rfl) h
  go_enter Try.func107, Try.ntmps107
  go_wp2
  go_ret
  exact ⟨rfl, rfl⟩

set_option maxRecDepth 100000 in
set_option maxHeartbeats 1600000 in
theorem slow_any (b : Nat) (W : Nat → Nat) (w : World) (h : TabIs w b 0 0 W) :
    Calls Try.prog 108 #[.pointer (some ⟨b, 0, none⟩), .func (.func 87) #[.pointer (some ⟨b, 0, none⟩)] #[]] w fun e w' => e = .returned (.tuple #[]) ∧ TabIs w' b 1 0 tabW ∧ Only (fun k => k = b) w w' := by
  have t1 := h.setState 1
  have o1 := only_set w b 1 (.int .i32 1)
  have hn := hnot
  have H1 : Hid (TabIs (w.setCell ⟨b, 1, none⟩ (.int .i32 1)) b 0 1 W) := t1
  have hs := h.state
  have hz := h.soft 1
  clear t1 h
  go_enter_defers Try.func108, Try.ntmps108
  go_wp2_with (go_at_call 122; refine (lock_free ⟨b, 1, none⟩ _ hs hz).mono ?_; rintro e w' ⟨rfl, rfl⟩)
  refine (load_any _ 0 _ H1.out.done).mono ?_
  rintro e w' ⟨rfl, rfl⟩
  go_wp2_with fail
  refine (fill_any b 0 1 W _ H1.out).mono ?_
  rintro e w2 ⟨rfl, t2, o2⟩
  have t3 := t2.drew.setDone 1
  have t4 := t3.setState 0
  go_wp2
  refine leaves_cons (f := 124) (args := #[.pointer (some ⟨b, 0, none⟩), .bool true]) (by simp) (by simp [go_sem]) ?_
  refine (store_deferred ⟨b, 0, none⟩ (.int .u32 0) .returning _ t2.done (t2.soft 0)).mono ?_
  rintro e u' w'' ⟨rfl, rfl, rfl⟩
  refine leaves_cons (f := 123) (args := #[.pointer (some ⟨b, 1, none⟩)]) (by simp [settle]) (by simp [go_sem]) ?_
  refine (unlock_deferred ⟨b, 1, none⟩ _ _ t3.state (t3.soft 1)).mono ?_
  rintro e u' w'' ⟨rfl, rfl, rfl⟩
  simp only [Leaves, settle, results, Try.results108]
  refine ⟨.tuple #[], by simp [go_sem], rfl, t4, ((o1.trans o2).drewN 1).trans ((only_set _ _ _ _).trans (only_set _ _ _ _))⟩
/-- The table, filled or not yet. -/
def Tab (w : World) (b : Nat) : Prop := (∃ W, TabIs w b 0 0 W) ∨ TabIs w b 1 0 tabW
theorem Tab.keep {w w' : World} {b : Nat} {T : Nat → Prop} (h : Tab w b) (o : Only T w w') (hT : ¬ T b) : Tab w' b := by
  rcases h with ⟨W, h⟩ | h
  · exact .inl ⟨W, h.keep o hT⟩
  · exact .inr (h.keep o hT)

set_option maxRecDepth 100000 in
set_option maxHeartbeats 1600000 in
theorem once_any (b : Nat) (w : World) (h : Tab w b) :
    Calls Try.prog 86 #[.pointer (some ⟨b, 0, none⟩), .func (.func 87) #[.pointer (some ⟨b, 0, none⟩)] #[]] w fun e w' => e = .returned (.tuple #[]) ∧ TabIs w' b 1 0 tabW ∧ Only (fun k => k = b) w w' := by
  rcases h with ⟨W, h⟩ | h
  · have H : Hid (TabIs w b 0 0 W) := h
    have hn := hnot
    clear h
    go_enter Try.func86, Try.ntmps86
    go_wp2_with fail
    refine (load_any _ 0 _ H.out.done).mono ?_
    rintro e w' ⟨rfl, rfl⟩
    go_wp2_with fail
    refine (slow_any b W _ H.out).mono ?_
    rintro e w' ⟨rfl, t, o⟩
    go_wp2
    go_end0
    exact ⟨rfl, t, o⟩
  · have H : Hid (TabIs w b 1 0 tabW) := h
    have hn := hnot
    clear h
    go_enter Try.func86, Try.ntmps86
    go_wp2_with fail
    refine (load_any _ 1 _ H.out.done).mono ?_
    rintro e w' ⟨rfl, rfl⟩
    go_wp2
    go_end0
    exact ⟨rfl, H.out, Only.refl _ _⟩

theorem nib_xor (n : Nat) (hn : n < 4294967296) : bits .xor .u32 ((n : Int) / 16) (tabW (n % 16) : Int) = ((n / 16 ^^^ tabW (n % 16) : Nat) : Int) :=
  u32_xor_nat (n / 16) (tabW (n % 16)) (by omega) (tabW_lt _ (by omega))
theorem xor_lt32 {a b : Nat} (ha : a < 4294967296) (hb : b < 4294967296) : a ^^^ b < 4294967296 := by
  have : a ^^^ b < 2 ^ 32 := Nat.xor_lt_two_pow (by omega) (by omega)
  omega

set_option maxRecDepth 100000 in
set_option maxHeartbeats 1600000 in
theorem sum_tab (b : Nat) (s : ByteArray) (w : World) (h : Tab w b) (hs : s.size ≤ maxLen) :
    Calls Try.prog 68 #[.pointer (some ⟨b, 0, none⟩), .string s] w fun e w' => e = .returned (.int .u32 (pCrc s.data.toList)) ∧ TabIs w' b 1 0 tabW ∧ Only (fun k => k = b) w w' := by
  unfold maxLen at hs
  have H : Hid (Tab w b) := h
  have hm := hmf
  clear h
  go_enter Try.func68, Try.ntmps68
  go_wp2_with fail
  refine (once_any b _ H.out).mono ?_
  rintro e w1 ⟨rfl, t1, o1⟩
  have T1 : Hid (TabIs w1 b 1 0 tabW) := t1
  clear t1 H
  go_wp2_with fail
  go_loop [5, 15] (fun c i => ∃ k : Nat, k ≤ s.size ∧ i = .int .i64 k ∧ c = .int .u32 (pCrcTo (s.data.toList.take k))) (fun _ i => s.size - (intOf i).toNat)
  case atStart => exact ⟨0, Nat.zero_le _, rfl, rfl⟩
  case round =>
    obtain ⟨k, hk, rfl, rfl⟩ := hrel
    by_cases hlt : k < s.size
    · have hc := pCrcTo_lt (s.data.toList.take k)
      have hb := s[k].toNat_lt
      obtain ⟨n1, hn1⟩ : ∃ n1, n1 = pCrcTo (s.data.toList.take k) ^^^ s[k].toNat := ⟨_, rfl⟩
      have l1 : n1 < 4294967296 := by rw [hn1]; exact xor_lt32 hc (by omega)
      have e1 : bits .xor .u32 (pCrcTo (s.data.toList.take k) : Int) (s[k].toNat : Int) = (n1 : Int) := by rw [hn1]; exact xor_in _ _ hc hb
      have e2 := and_15 n1 l1
      obtain ⟨m1, hm1⟩ : ∃ m, m = n1 % 16 := ⟨_, rfl⟩
      have lm1 : m1 < 16 := by omega
      obtain ⟨n2, hn2⟩ : ∃ n, n = n1 / 16 ^^^ tabW m1 := ⟨_, rfl⟩
      have l2 : n2 < 4294967296 := by rw [hn2]; exact xor_lt32 (by omega) (tabW_lt _ lm1)
      have e3 : bits .xor .u32 ((n1 : Int) / 16) (tabW m1 : Int) = (n2 : Int) := by rw [hn2, hm1]; exact nib_xor n1 l1
      have e4 := and_15 n2 l2
      obtain ⟨m2, hm2⟩ : ∃ m, m = n2 % 16 := ⟨_, rfl⟩
      have lm2 : m2 < 16 := by omega
      obtain ⟨n3, hn3⟩ : ∃ n, n = n2 / 16 ^^^ tabW m2 := ⟨_, rfl⟩
      have e5 : bits .xor .u32 ((n2 : Int) / 16) (tabW m2 : Int) = (n3 : Int) := by rw [hn3, hm2]; exact nib_xor n2 l2
      have hsn : Hid (n3 = pCrcTo (s.data.toList.take (k + 1))) := by
        rw [take_snoc s k hlt, pCrcTo_snoc, pByte_nib]
        show n3 = _
        simp only
        rw [← hn1, hn3, hm2, hn2, hm1]
        rfl
      rw [← hm1] at e2
      rw [← hm2] at e4
      have c1 := T1.out.words m1 lm1
      have c2 := T1.out.words m2 lm2
      clear hn1 hm1 hn2 hm2 hn3
      have i1 : (m1 : Int) < 16 := by omega
      have i2 : (m2 : Int) < 16 := by omega
      have j1 : (n1 : Int) < 4294967296 := by omega
      have j2 : (n2 : Int) < 4294967296 := by omega
      go_wp2_with fail
      exact ⟨⟨k + 1, by omega, by go_num, by rw [hsn.out]⟩, by simp [intOf]; omega⟩
    · go_wp2
      go_ret
      refine ⟨ret_int ?_, T1.out, o1⟩
      rw [last_not _ (pCrcTo_lt _), List.take_of_length_le (by simp; omega)]
      rfl
end Go.Proofs.Ytbljokilfkodfaa
