/-
  twin with what it leaves alone; the program's disk and the reference's side by side.
-/
import Derived.Test.YtbelmadbjiiodaaTDo
import Derived.Test.YtbelmadbjiiodaaRDt
namespace Go.Proofs.Ytbelmadbjiiodaa
open Go Go.RowKit
/-- RMine, and nothing but the reference's disk was changed since wb. -/
structure RMM (w0 wb w : World) (g : Nat) (D : Dk.Disk) : Prop where
  mine : RMine w0 w g D
  mv : RMv g wb w
section
variable {w0 wb w : World} {g : Nat} {D : Dk.Disk}
theorem RMM.step {w' : World} {D' : Dk.Disk} (h : RMM w0 wb w g D) (d : RAt w' g D') (m : RMv g w w') : RMM w0 wb w' g D' := ⟨h.mine.step d m, h.mv.trans m⟩
theorem RMM.quiet {w' : World} (h : RMM w0 wb w g D) (hb : Below w.heap.size w w') : RMM w0 wb w' g D := h.step (h.mine.at_.below hb).1 (h.mine.at_.below hb).2
theorem RMM.alloc (h : RMM w0 wb w g D) (o : Obj) : RMM w0 wb (w.alloc o) g D := h.quiet (below_new w o)
theorem rmm_write (h : RMM w0 wb w g D) (f at_ : Int) (h0 : -9223372036854775808 ≤ at_) (h1 : at_ ≤ 9223372036854775807) (s : ByteArray) (hs : s.size ≤ 1000000) (hq : D.queue.length + s.size ≤ 1000000) :
    Calls Try.prog 34 #[.pointer (some ⟨g, 0, none⟩), .int .i64 f, .int .i64 at_, .string s] w fun e w' => e = .returned (.int .i64 (Dk.ec (Dk.write D f at_ s.data.toList).1)) ∧ RMM w0 wb w' g (Dk.write D f at_ s.data.toList).2 :=
  (rwrite_any h.mine.at_ f at_ s h0 h1 (by omega) hq).mono fun _ _ ⟨a, b, c⟩ => ⟨a, h.step b c⟩
theorem rmm_read (h : RMM w0 wb w g D) (f : Int) :
    Calls Try.prog 22 #[.pointer (some ⟨g, 0, none⟩), .int .i64 f] w fun e w' => e = .returned (.tuple #[.string (enc (Dk.readE D f).1), .int .i64 (Dk.ec (Dk.readE D f).2)]) ∧ RMM w0 wb w' g D :=
  (rreadE_any h.mine.at_ f).mono fun _ _ ⟨a, b⟩ => ⟨a, h.quiet b⟩
theorem rmm_size (h : RMM w0 wb w g D) (f : Int) :
    Calls Try.prog 18 #[.pointer (some ⟨g, 0, none⟩), .int .i64 f] w fun e w' => e = .returned (.int .i64 (Dk.size D f : Int)) ∧ RMM w0 wb w' g D :=
  (rsize_any h.mine.at_ f).mono fun _ _ ⟨a, b⟩ => ⟨a, h.quiet b⟩
theorem rmm_flush (h : RMM w0 wb w g D) (f : Int) (hq : D.queue.length ≤ 1000000) :
    Calls Try.prog 35 #[.pointer (some ⟨g, 0, none⟩), .int .i64 f] w fun e w' => e = .returned (.int .i64 (Dk.ec (Dk.flush D f).1)) ∧ RMM w0 wb w' g (Dk.flush D f).2 :=
  (rflush_any h.mine.at_ f hq).mono fun _ _ ⟨a, b, c⟩ => ⟨a, h.step b c⟩
theorem rmm_cut (h : RMM w0 wb w g D) (f n : Int) (hn0 : -9223372036854775808 ≤ n) (hn1 : n ≤ 9223372036854775807) (hq : D.queue.length ≤ 1000000) :
    Calls Try.prog 36 #[.pointer (some ⟨g, 0, none⟩), .int .i64 f, .int .i64 n] w fun e w' => e = .returned (.int .i64 (Dk.ec (Dk.cut D f n).1)) ∧ RMM w0 wb w' g (Dk.cut D f n).2 :=
  (rcut_any h.mine.at_ f n hn0 hn1 hq).mono fun _ _ ⟨a, b, c⟩ => ⟨a, h.step b c⟩
theorem rmm_turn (h : RMM w0 wb w g D) (f n : Int) (hq : D.queue.length ≤ 1000000) :
    Calls Try.prog 37 #[.pointer (some ⟨g, 0, none⟩), .int .i64 f, .int .i64 n] w fun e w' => e = .returned (.int .i64 (Dk.ec (Dk.turn D f n).1)) ∧ RMM w0 wb w' g (Dk.turn D f n).2 :=
  (rturn_any h.mine.at_ f n hq).mono fun _ _ ⟨a, b, c⟩ => ⟨a, h.step b c⟩
theorem rmm_start (h : RMM w0 wb w g D) :
    Calls Try.prog 20 #[.pointer (some ⟨g, 0, none⟩)] w fun e w' => (∃ v, e = .returned v) ∧ RMM w0 wb w' g (Dk.start D) :=
  (rstart_any h.mine.at_).mono fun _ _ ⟨a, b, c⟩ => ⟨a, h.step b c⟩
theorem rmm_lose (h : RMM w0 wb w g D) (n : Int) (hn0 : -9223372036854775808 ≤ n) (hn : n ≤ 9223372036854775807) :
    Calls Try.prog 39 #[.pointer (some ⟨g, 0, none⟩), .int .i64 n] w fun e w' => (∃ v, e = .returned v) ∧ RMM w0 wb w' g (Dk.lose D n) :=
  (rlose_any h.mine.at_ n hn0 hn).mono fun _ _ ⟨a, b, c⟩ => ⟨a, h.step b c⟩
theorem rmm_crash_arg (h : RMM w0 wb w g D) (a : Option Addr) (b off n cap : Nat) (ks : List Int) (hk : IR w0 a b off ks) (hn : ks.length = n) :
    Calls Try.prog 38 #[.pointer (some ⟨g, 0, none⟩), .slice a n cap] w fun e w' => (∃ v, e = .returned v) ∧ RMM w0 wb w' g (Dk.crash D ks) :=
  (rcrash_any h.mine.at_ a b off n cap ks (hk.below h.mine.below) hn (fun hp hf => by have := h.mine.foot b hf; have := hk.lt hp; omega)).mono fun _ _ ⟨x, y, z⟩ => ⟨x, h.step y z⟩
theorem rmm_arm_arg (h : RMM w0 wb w g D) (m : Int) (hm0 : -9223372036854775808 ≤ m) (hm : m ≤ 9223372036854775807) (a : Option Addr) (b off n cap : Nat) (ks : List Int) (hk : IR w0 a b off ks) (hn : ks.length = n) (_hnil : a = none → cap = 0) (hl : n ≤ 100000000) :
    Calls Try.prog 40 #[.pointer (some ⟨g, 0, none⟩), .int .i64 m, .slice a n cap] w fun e w' => (∃ v, e = .returned v) ∧ RMM w0 wb w' g (Dk.arm D m ks) :=
  (rarm_any h.mine.at_ m hm0 hm a b off n cap ks (hk.below h.mine.below) hn hl (fun hp hf => by have := h.mine.foot b hf; have := hk.lt hp; omega)).mono fun _ _ ⟨x, y, z⟩ => ⟨x, h.step y z⟩
end
set_option maxHeartbeats 1000000 in
set_option maxRecDepth 100000 in
theorem rm_0 (d f g0 n : Int) (s : ByteArray) (ka : Option Addr) (kn kcap : Nat) (w0 wb w : World) (g : Nat) (D : Dk.Disk) (h : RMM w0 wb w g D) (hd0 : -9223372036854775808 ≤ d) (hd1 : d ≤ 9223372036854775807) (hp : Dk.pick d = 0) (hn0 : -9223372036854775808 ≤ n) (hn1 : n ≤ 9223372036854775807) (hs : s.size ≤ 1000000) (hq : D.queue.length + s.size ≤ 1000000) :
    Calls Try.prog 14 #[.pointer (some ⟨g, 0, none⟩), .agg #[.int .i64 d, .int .i64 f, .int .i64 g0, .int .i64 n, .string s, .slice ka kn kcap]] w fun e w' => e = .returned (.tuple #[.string (⟨#[]⟩), .int .i64 (Dk.ec (Dk.write D f n s.data.toList).1)]) ∧ RMM w0 wb w' g ((Dk.write D f n s.data.toList).2) := by
  have CP := Lib.hid (fun w1 : World => pick_any d hd0 hd1 w1)
  rw [hp] at CP
  clear hp
  have hm := h.alloc (.cells #[.int .i64 d, .int .i64 f, .int .i64 g0, .int .i64 n, .string s, .slice ka kn kcap] 32)
  have CM := Lib.hid (rmm_write hm f n hn0 hn1 s hs hq)
  clear h hm
  obtain ⟨RE, hRE⟩ : ∃ RE, Dk.ec (Dk.write D f n s.data.toList).1 = RE := ⟨_, rfl⟩
  rw [hRE] at CM ⊢
  clear hRE
  go_enter Try.func14, Try.ntmps14
  go_wp2_with (first | (go_at_call 8; with_reducible refine (CP.out _).mono ?_; rintro _ w2 ⟨rfl, rfl⟩) | (go_at_call 34; with_reducible refine CM.out.mono ?_; rintro _ w3 ⟨rfl, hm⟩; have HM := Lib.hid hm; clear hm))
  go_ret2
  exact ⟨rfl, HM.out⟩
set_option maxHeartbeats 1000000 in
set_option maxRecDepth 100000 in
theorem rm_1 (d f g0 n : Int) (s : ByteArray) (ka : Option Addr) (kn kcap : Nat) (w0 wb w : World) (g : Nat) (D : Dk.Disk) (h : RMM w0 wb w g D) (hd0 : -9223372036854775808 ≤ d) (hd1 : d ≤ 9223372036854775807) (hp : Dk.pick d = 1) (hn0 : -9223372036854775808 ≤ n) (hn1 : n ≤ 9223372036854775807) (hs : s.size ≤ 1000000) (hq : D.queue.length + s.size ≤ 1000000) :
    Calls Try.prog 14 #[.pointer (some ⟨g, 0, none⟩), .agg #[.int .i64 d, .int .i64 f, .int .i64 g0, .int .i64 n, .string s, .slice ka kn kcap]] w fun e w' => e = .returned (.tuple #[.string (⟨#[]⟩), .int .i64 (Dk.ec (Dk.write D f n s.data.toList).1)]) ∧ RMM w0 wb w' g ((Dk.write D f n s.data.toList).2) := by
  have CP := Lib.hid (fun w1 : World => pick_any d hd0 hd1 w1)
  rw [hp] at CP
  clear hp
  have hm := h.alloc (.cells #[.int .i64 d, .int .i64 f, .int .i64 g0, .int .i64 n, .string s, .slice ka kn kcap] 32)
  have CM := Lib.hid (rmm_write hm f n hn0 hn1 s hs hq)
  clear h hm
  obtain ⟨RE, hRE⟩ : ∃ RE, Dk.ec (Dk.write D f n s.data.toList).1 = RE := ⟨_, rfl⟩
  rw [hRE] at CM ⊢
  clear hRE
  go_enter Try.func14, Try.ntmps14
  go_wp2_with (first | (go_at_call 8; with_reducible refine (CP.out _).mono ?_; rintro _ w2 ⟨rfl, rfl⟩) | (go_at_call 34; with_reducible refine CM.out.mono ?_; rintro _ w3 ⟨rfl, hm⟩; have HM := Lib.hid hm; clear hm))
  go_ret2
  exact ⟨rfl, HM.out⟩
set_option maxHeartbeats 1000000 in
set_option maxRecDepth 100000 in
theorem rm_2 (d f g0 n : Int) (s : ByteArray) (ka : Option Addr) (kn kcap : Nat) (w0 wb w : World) (g : Nat) (D : Dk.Disk) (h : RMM w0 wb w g D) (hd0 : -9223372036854775808 ≤ d) (hd1 : d ≤ 9223372036854775807) (hp : Dk.pick d = 2) (hq : D.queue.length ≤ 1000000) :
    Calls Try.prog 14 #[.pointer (some ⟨g, 0, none⟩), .agg #[.int .i64 d, .int .i64 f, .int .i64 g0, .int .i64 n, .string s, .slice ka kn kcap]] w fun e w' => e = .returned (.tuple #[.string (⟨#[]⟩), .int .i64 (Dk.ec (Dk.flush D f).1)]) ∧ RMM w0 wb w' g ((Dk.flush D f).2) := by
  have CP := Lib.hid (fun w1 : World => pick_any d hd0 hd1 w1)
  rw [hp] at CP
  clear hp
  have hm := h.alloc (.cells #[.int .i64 d, .int .i64 f, .int .i64 g0, .int .i64 n, .string s, .slice ka kn kcap] 32)
  have CM := Lib.hid (rmm_flush hm f hq)
  clear h hm
  obtain ⟨RE, hRE⟩ : ∃ RE, Dk.ec (Dk.flush D f).1 = RE := ⟨_, rfl⟩
  rw [hRE] at CM ⊢
  clear hRE
  go_enter Try.func14, Try.ntmps14
  go_wp2_with (first | (go_at_call 8; with_reducible refine (CP.out _).mono ?_; rintro _ w2 ⟨rfl, rfl⟩) | (go_at_call 35; with_reducible refine CM.out.mono ?_; rintro _ w3 ⟨rfl, hm⟩; have HM := Lib.hid hm; clear hm))
  go_ret2
  exact ⟨rfl, HM.out⟩
set_option maxHeartbeats 1000000 in
set_option maxRecDepth 100000 in
theorem rm_3 (d f g0 n : Int) (s : ByteArray) (ka : Option Addr) (kn kcap : Nat) (w0 wb w : World) (g : Nat) (D : Dk.Disk) (h : RMM w0 wb w g D) (hd0 : -9223372036854775808 ≤ d) (hd1 : d ≤ 9223372036854775807) (hp : Dk.pick d = 3) (hn0 : -9223372036854775808 ≤ n) (hn1 : n ≤ 9223372036854775807) (hq : D.queue.length ≤ 1000000) :
    Calls Try.prog 14 #[.pointer (some ⟨g, 0, none⟩), .agg #[.int .i64 d, .int .i64 f, .int .i64 g0, .int .i64 n, .string s, .slice ka kn kcap]] w fun e w' => e = .returned (.tuple #[.string (⟨#[]⟩), .int .i64 (Dk.ec (Dk.cut D f n).1)]) ∧ RMM w0 wb w' g ((Dk.cut D f n).2) := by
  have CP := Lib.hid (fun w1 : World => pick_any d hd0 hd1 w1)
  rw [hp] at CP
  clear hp
  have hm := h.alloc (.cells #[.int .i64 d, .int .i64 f, .int .i64 g0, .int .i64 n, .string s, .slice ka kn kcap] 32)
  have CM := Lib.hid (rmm_cut hm f n hn0 hn1 hq)
  clear h hm
  obtain ⟨RE, hRE⟩ : ∃ RE, Dk.ec (Dk.cut D f n).1 = RE := ⟨_, rfl⟩
  rw [hRE] at CM ⊢
  clear hRE
  go_enter Try.func14, Try.ntmps14
  go_wp2_with (first | (go_at_call 8; with_reducible refine (CP.out _).mono ?_; rintro _ w2 ⟨rfl, rfl⟩) | (go_at_call 36; with_reducible refine CM.out.mono ?_; rintro _ w3 ⟨rfl, hm⟩; have HM := Lib.hid hm; clear hm))
  go_ret2
  exact ⟨rfl, HM.out⟩
set_option maxHeartbeats 1000000 in
set_option maxRecDepth 100000 in
theorem rm_4 (d f g0 n : Int) (s : ByteArray) (ka : Option Addr) (kn kcap : Nat) (w0 wb w : World) (g : Nat) (D : Dk.Disk) (h : RMM w0 wb w g D) (hd0 : -9223372036854775808 ≤ d) (hd1 : d ≤ 9223372036854775807) (hp : Dk.pick d = 4) (hq : D.queue.length ≤ 1000000) :
    Calls Try.prog 14 #[.pointer (some ⟨g, 0, none⟩), .agg #[.int .i64 d, .int .i64 f, .int .i64 g0, .int .i64 n, .string s, .slice ka kn kcap]] w fun e w' => e = .returned (.tuple #[.string (⟨#[]⟩), .int .i64 (Dk.ec (Dk.turn D f g0).1)]) ∧ RMM w0 wb w' g ((Dk.turn D f g0).2) := by
  have CP := Lib.hid (fun w1 : World => pick_any d hd0 hd1 w1)
  rw [hp] at CP
  clear hp
  have hm := h.alloc (.cells #[.int .i64 d, .int .i64 f, .int .i64 g0, .int .i64 n, .string s, .slice ka kn kcap] 32)
  have CM := Lib.hid (rmm_turn hm f g0 hq)
  clear h hm
  obtain ⟨RE, hRE⟩ : ∃ RE, Dk.ec (Dk.turn D f g0).1 = RE := ⟨_, rfl⟩
  rw [hRE] at CM ⊢
  clear hRE
  go_enter Try.func14, Try.ntmps14
  go_wp2_with (first | (go_at_call 8; with_reducible refine (CP.out _).mono ?_; rintro _ w2 ⟨rfl, rfl⟩) | (go_at_call 37; with_reducible refine CM.out.mono ?_; rintro _ w3 ⟨rfl, hm⟩; have HM := Lib.hid hm; clear hm))
  go_ret2
  exact ⟨rfl, HM.out⟩
set_option maxHeartbeats 1000000 in
set_option maxRecDepth 100000 in
theorem rm_5 (d f g0 n : Int) (s : ByteArray) (ka : Option Addr) (kn kcap : Nat) (kb koff : Nat) (ks : List Int) (w0 wb w : World) (g : Nat) (D : Dk.Disk) (h : RMM w0 wb w g D) (hd0 : -9223372036854775808 ≤ d) (hd1 : d ≤ 9223372036854775807) (hp : Dk.pick d = 5) (hk : IR w0 ka kb koff ks) (hkn : ks.length = kn) :
    Calls Try.prog 14 #[.pointer (some ⟨g, 0, none⟩), .agg #[.int .i64 d, .int .i64 f, .int .i64 g0, .int .i64 n, .string s, .slice ka kn kcap]] w fun e w' => e = .returned (.tuple #[.string (⟨#[]⟩), .int .i64 (0)]) ∧ RMM w0 wb w' g (Dk.crash D ks) := by
  have CP := Lib.hid (fun w1 : World => pick_any d hd0 hd1 w1)
  rw [hp] at CP
  clear hp
  have hm := h.alloc (.cells #[.int .i64 d, .int .i64 f, .int .i64 g0, .int .i64 n, .string s, .slice ka kn kcap] 32)
  have CM := Lib.hid (rmm_crash_arg hm ka kb koff kn kcap ks hk hkn)
  clear h hm
  go_enter Try.func14, Try.ntmps14
  go_wp2_with (first | (go_at_call 8; with_reducible refine (CP.out _).mono ?_; rintro _ w2 ⟨rfl, rfl⟩) | (go_at_call 38; with_reducible refine CM.out.mono ?_; rintro _ w3 ⟨⟨v9, rfl⟩, hm⟩; have HM := Lib.hid hm; clear hm))
  go_ret2
  exact ⟨rfl, HM.out⟩
set_option maxHeartbeats 1000000 in
set_option maxRecDepth 100000 in
theorem rm_6 (d f g0 n : Int) (s : ByteArray) (ka : Option Addr) (kn kcap : Nat) (w0 wb w : World) (g : Nat) (D : Dk.Disk) (h : RMM w0 wb w g D) (hd0 : -9223372036854775808 ≤ d) (hd1 : d ≤ 9223372036854775807) (hp : Dk.pick d = 6) (hn0 : -9223372036854775808 ≤ n) (hn1 : n ≤ 9223372036854775807) :
    Calls Try.prog 14 #[.pointer (some ⟨g, 0, none⟩), .agg #[.int .i64 d, .int .i64 f, .int .i64 g0, .int .i64 n, .string s, .slice ka kn kcap]] w fun e w' => e = .returned (.tuple #[.string (⟨#[]⟩), .int .i64 (0)]) ∧ RMM w0 wb w' g (Dk.lose D n) := by
  have CP := Lib.hid (fun w1 : World => pick_any d hd0 hd1 w1)
  rw [hp] at CP
  clear hp
  have hm := h.alloc (.cells #[.int .i64 d, .int .i64 f, .int .i64 g0, .int .i64 n, .string s, .slice ka kn kcap] 32)
  have CM := Lib.hid (rmm_lose hm n hn0 hn1)
  clear h hm
  go_enter Try.func14, Try.ntmps14
  go_wp2_with (first | (go_at_call 8; with_reducible refine (CP.out _).mono ?_; rintro _ w2 ⟨rfl, rfl⟩) | (go_at_call 39; with_reducible refine CM.out.mono ?_; rintro _ w3 ⟨⟨v9, rfl⟩, hm⟩; have HM := Lib.hid hm; clear hm))
  go_ret2
  exact ⟨rfl, HM.out⟩
set_option maxHeartbeats 1000000 in
set_option maxRecDepth 100000 in
theorem rm_7 (d f g0 n : Int) (s : ByteArray) (ka : Option Addr) (kn kcap : Nat) (w0 wb w : World) (g : Nat) (D : Dk.Disk) (h : RMM w0 wb w g D) (hd0 : -9223372036854775808 ≤ d) (hd1 : d ≤ 9223372036854775807) (hp : Dk.pick d = 7) :
    Calls Try.prog 14 #[.pointer (some ⟨g, 0, none⟩), .agg #[.int .i64 d, .int .i64 f, .int .i64 g0, .int .i64 n, .string s, .slice ka kn kcap]] w fun e w' => e = .returned (.tuple #[.string (⟨#[]⟩), .int .i64 (0)]) ∧ RMM w0 wb w' g (Dk.start D) := by
  have CP := Lib.hid (fun w1 : World => pick_any d hd0 hd1 w1)
  rw [hp] at CP
  clear hp
  have hm := h.alloc (.cells #[.int .i64 d, .int .i64 f, .int .i64 g0, .int .i64 n, .string s, .slice ka kn kcap] 32)
  have CM := Lib.hid (rmm_start hm)
  clear h hm
  go_enter Try.func14, Try.ntmps14
  go_wp2_with (first | (go_at_call 8; with_reducible refine (CP.out _).mono ?_; rintro _ w2 ⟨rfl, rfl⟩) | (go_at_call 20; with_reducible refine CM.out.mono ?_; rintro _ w3 ⟨⟨v9, rfl⟩, hm⟩; have HM := Lib.hid hm; clear hm))
  go_ret2
  exact ⟨rfl, HM.out⟩
set_option maxHeartbeats 1000000 in
set_option maxRecDepth 100000 in
theorem rm_8 (d f g0 n : Int) (s : ByteArray) (ka : Option Addr) (kn kcap : Nat) (w0 wb w : World) (g : Nat) (D : Dk.Disk) (h : RMM w0 wb w g D) (hd0 : -9223372036854775808 ≤ d) (hd1 : d ≤ 9223372036854775807) (hp : Dk.pick d = 8) :
    Calls Try.prog 14 #[.pointer (some ⟨g, 0, none⟩), .agg #[.int .i64 d, .int .i64 f, .int .i64 g0, .int .i64 n, .string s, .slice ka kn kcap]] w fun e w' => e = .returned (.tuple #[.string (enc (Dk.readE D f).1), .int .i64 (Dk.ec (Dk.readE D f).2)]) ∧ RMM w0 wb w' g (D) := by
  have CP := Lib.hid (fun w1 : World => pick_any d hd0 hd1 w1)
  rw [hp] at CP
  clear hp
  have hm := h.alloc (.cells #[.int .i64 d, .int .i64 f, .int .i64 g0, .int .i64 n, .string s, .slice ka kn kcap] 32)
  have CM := Lib.hid (rmm_read hm f)
  clear h hm
  obtain ⟨RS, hRS⟩ : ∃ RS, enc (Dk.readE D f).1 = RS := ⟨_, rfl⟩
  rw [hRS] at CM ⊢
  clear hRS
  obtain ⟨RE, hRE⟩ : ∃ RE, Dk.ec (Dk.readE D f).2 = RE := ⟨_, rfl⟩
  rw [hRE] at CM ⊢
  clear hRE
  go_enter Try.func14, Try.ntmps14
  go_wp2_with (first | (go_at_call 8; with_reducible refine (CP.out _).mono ?_; rintro _ w2 ⟨rfl, rfl⟩) | (go_at_call 22; with_reducible refine CM.out.mono ?_; rintro _ w3 ⟨rfl, hm⟩; have HM := Lib.hid hm; clear hm))
  go_ret2
  exact ⟨rfl, HM.out⟩
set_option maxHeartbeats 1000000 in
set_option maxRecDepth 100000 in
theorem rm_9 (d f g0 n : Int) (s : ByteArray) (ka : Option Addr) (kn kcap : Nat) (w0 wb w : World) (g : Nat) (D : Dk.Disk) (h : RMM w0 wb w g D) (hd0 : -9223372036854775808 ≤ d) (hd1 : d ≤ 9223372036854775807) (hp : Dk.pick d = 9) :
    Calls Try.prog 14 #[.pointer (some ⟨g, 0, none⟩), .agg #[.int .i64 d, .int .i64 f, .int .i64 g0, .int .i64 n, .string s, .slice ka kn kcap]] w fun e w' => e = .returned (.tuple #[.string (⟨#[]⟩), .int .i64 (0)]) ∧ RMM w0 wb w' g (D) := by
  have CP := Lib.hid (fun w1 : World => pick_any d hd0 hd1 w1)
  rw [hp] at CP
  clear hp
  have hm := h.alloc (.cells #[.int .i64 d, .int .i64 f, .int .i64 g0, .int .i64 n, .string s, .slice ka kn kcap] 32)
  have HM := Lib.hid hm
  clear h hm
  go_enter Try.func14, Try.ntmps14
  go_wp2_with (first | (go_at_call 8; with_reducible refine (CP.out _).mono ?_; rintro _ w2 ⟨rfl, rfl⟩))
  go_ret2
  exact ⟨rfl, HM.out⟩
set_option maxHeartbeats 1000000 in
set_option maxRecDepth 100000 in
theorem rm_10 (d f g0 n : Int) (s : ByteArray) (ka : Option Addr) (kn kcap : Nat) (kb koff : Nat) (ks : List Int) (w0 wb w : World) (g : Nat) (D : Dk.Disk) (h : RMM w0 wb w g D) (hd0 : -9223372036854775808 ≤ d) (hd1 : d ≤ 9223372036854775807) (hp : Dk.pick d = 10) (hn0 : -9223372036854775808 ≤ n) (hn1 : n ≤ 9223372036854775807) (hk : IR w0 ka kb koff ks) (hkn : ks.length = kn) (hknil : ka = none → kcap = 0) (hkl : kn ≤ 100000000) :
    Calls Try.prog 14 #[.pointer (some ⟨g, 0, none⟩), .agg #[.int .i64 d, .int .i64 f, .int .i64 g0, .int .i64 n, .string s, .slice ka kn kcap]] w fun e w' => e = .returned (.tuple #[.string (⟨#[]⟩), .int .i64 (0)]) ∧ RMM w0 wb w' g (Dk.arm D n ks) := by
  have CP := Lib.hid (fun w1 : World => pick_any d hd0 hd1 w1)
  rw [hp] at CP
  clear hp
  have hm := h.alloc (.cells #[.int .i64 d, .int .i64 f, .int .i64 g0, .int .i64 n, .string s, .slice ka kn kcap] 32)
  have CM := Lib.hid (rmm_arm_arg hm n hn0 hn1 ka kb koff kn kcap ks hk hkn hknil hkl)
  clear h hm
  go_enter Try.func14, Try.ntmps14
  go_wp2_with (first | (go_at_call 8; with_reducible refine (CP.out _).mono ?_; rintro _ w2 ⟨rfl, rfl⟩) | (go_at_call 40; with_reducible refine CM.out.mono ?_; rintro _ w3 ⟨⟨v9, rfl⟩, hm⟩; have HM := Lib.hid hm; clear hm))
  go_ret2
  exact ⟨rfl, HM.out⟩
/-- twin, whatever the act. -/
theorem rm_any (a : Dk.Act) (s : ByteArray) (hs1 : s.data.toList = a.s) (ka : Option Addr) (kb koff kn kcap : Nat) (w0 wb w : World) (g : Nat) (D : Dk.Disk) (h : RMM w0 wb w g D) (hA : AC w0 a ka kb koff kn kcap) (hs : a.s.length ≤ 1000000) (hq : D.queue.length + a.s.length ≤ 1000000) (hkl : kn ≤ 100000000) :
    Calls Try.prog 14 #[.pointer (some ⟨g, 0, none⟩), .agg #[.int .i64 a.do_, .int .i64 a.f, .int .i64 a.g, .int .i64 a.n, .string s, .slice ka kn kcap]] w fun e w' => e = .returned (.tuple #[.string (enc (Dk.act D a).1.1), .int .i64 (Dk.ec (Dk.act D a).1.2)]) ∧ RMM w0 wb w' g (Dk.act D a).2 := by
  have hz := Lib.size_eq s
  rw [hs1] at hz
  obtain ⟨p0, p1⟩ := Dk.pick_range a.do_
  have hc : Dk.pick a.do_ = 0 ∨ Dk.pick a.do_ = 1 ∨ Dk.pick a.do_ = 2 ∨ Dk.pick a.do_ = 3 ∨ Dk.pick a.do_ = 4 ∨ Dk.pick a.do_ = 5 ∨ Dk.pick a.do_ = 6 ∨ Dk.pick a.do_ = 7 ∨ Dk.pick a.do_ = 8 ∨ Dk.pick a.do_ = 9 ∨ Dk.pick a.do_ = 10 := by omega
  rcases hc with e | e | e | e | e | e | e | e | e | e | e
  · have C := rm_0 a.do_ a.f a.g a.n s ka kn kcap w0 wb w g D h hA.d0 hA.d1 e hA.n0 hA.n1 (by omega) (by omega)
    rw [hs1] at C
    refine C.mono fun x w' ⟨h1, h2⟩ => ?_
    unfold Dk.act
    rw [e]
    exact ⟨h1, h2⟩
  · have C := rm_1 a.do_ a.f a.g a.n s ka kn kcap w0 wb w g D h hA.d0 hA.d1 e hA.n0 hA.n1 (by omega) (by omega)
    rw [hs1] at C
    refine C.mono fun x w' ⟨h1, h2⟩ => ?_
    unfold Dk.act
    rw [e]
    exact ⟨h1, h2⟩
  · have C := rm_2 a.do_ a.f a.g a.n s ka kn kcap w0 wb w g D h hA.d0 hA.d1 e (by omega)
    refine C.mono fun x w' ⟨h1, h2⟩ => ?_
    unfold Dk.act
    rw [e]
    exact ⟨h1, h2⟩
  · have C := rm_3 a.do_ a.f a.g a.n s ka kn kcap w0 wb w g D h hA.d0 hA.d1 e hA.n0 hA.n1 (by omega)
    refine C.mono fun x w' ⟨h1, h2⟩ => ?_
    unfold Dk.act
    rw [e]
    exact ⟨h1, h2⟩
  · have C := rm_4 a.do_ a.f a.g a.n s ka kn kcap w0 wb w g D h hA.d0 hA.d1 e (by omega)
    refine C.mono fun x w' ⟨h1, h2⟩ => ?_
    unfold Dk.act
    rw [e]
    exact ⟨h1, h2⟩
  · have C := rm_5 a.do_ a.f a.g a.n s ka kn kcap kb koff a.keep w0 wb w g D h hA.d0 hA.d1 e hA.ir hA.len
    refine C.mono fun x w' ⟨h1, h2⟩ => ?_
    unfold Dk.act
    rw [e]
    exact ⟨h1, h2⟩
  · have C := rm_6 a.do_ a.f a.g a.n s ka kn kcap w0 wb w g D h hA.d0 hA.d1 e hA.n0 hA.n1
    refine C.mono fun x w' ⟨h1, h2⟩ => ?_
    unfold Dk.act
    rw [e]
    exact ⟨h1, h2⟩
  · have C := rm_7 a.do_ a.f a.g a.n s ka kn kcap w0 wb w g D h hA.d0 hA.d1 e
    refine C.mono fun x w' ⟨h1, h2⟩ => ?_
    unfold Dk.act
    rw [e]
    exact ⟨h1, h2⟩
  · have C := rm_8 a.do_ a.f a.g a.n s ka kn kcap w0 wb w g D h hA.d0 hA.d1 e
    refine C.mono fun x w' ⟨h1, h2⟩ => ?_
    unfold Dk.act
    rw [e]
    exact ⟨h1, h2⟩
  · have C := rm_9 a.do_ a.f a.g a.n s ka kn kcap w0 wb w g D h hA.d0 hA.d1 e
    refine C.mono fun x w' ⟨h1, h2⟩ => ?_
    unfold Dk.act
    rw [e]
    exact ⟨h1, h2⟩
  · have C := rm_10 a.do_ a.f a.g a.n s ka kn kcap kb koff a.keep w0 wb w g D h hA.d0 hA.d1 e hA.n0 hA.n1 hA.ir hA.len hA.nil hkl
    refine C.mono fun x w' ⟨h1, h2⟩ => ?_
    unfold Dk.act
    rw [e]
    exact ⟨h1, h2⟩
/-- What the reference's disk is made of: the types of its blocks. -/
theorem RV.types {w : World} {g b : Nat} {vl vq vk : Value} {D : Dk.Disk} (h : RV w g vl vq vk D) (hf : RFoot w g b) : ∃ cs t z, w.heap[b]? = some (.cells cs t z) ∧ (t = 53 ∨ t = 9 ∨ t = 71) := by
  have own : ∀ {e : TypeId} {sz n : Nat} {v : Value} {xs : List Value}, w.ownsRow 0 e sz v n xs → v.ownBlock = some b → ∃ cs z, w.heap[b]? = some (.cells cs e z) := by
    intro e sz n v xs ho hb
    rcases ho.2 with ⟨rfl, _⟩ | ⟨g', cap, cur, rfl, _, hg, _⟩
    · cases hb
    · injection hb with hb
      change g' = b at hb
      subst hb
      exact ⟨_, _, hg⟩
  rcases hf with rfl | ⟨i, v, hi, hc, hv⟩
  · exact ⟨_, _, _, h.blk, .inl rfl⟩
  · have hcs := h.cells
    have : i = 0 ∨ i = 1 := by omega
    rcases this with rfl | rfl
    · rw [hcs.1] at hc
      injection hc with hc
      subst hc
      obtain ⟨cs, z, e⟩ := own h.last hv
      exact ⟨cs, _, z, e, .inr (.inl rfl)⟩
    · rw [hcs.2.1] at hc
      injection hc with hc
      subst hc
      obtain ⟨cs, z, e⟩ := own h.pend hv
      exact ⟨cs, _, z, e, .inr (.inr rfl)⟩
/-- No block of the one is the other's. -/
theorem feet {w : World} {d x b : Nat} {D E : Dk.Disk} (h : DiskAt w d D) (k : RAt w x E) (hf : RFoot w x b) : ¬ Foot w d b := by
  obtain ⟨vs, q, kk, hv⟩ := h
  obtain ⟨vl, vq, vk, hr⟩ := k
  obtain ⟨cs, t, z, h1, h2⟩ := hr.types hf
  rcases h2 with rfl | rfl | rfl
  · exact hv.not_foot h1 (by decide) (by decide) (by decide)
  · exact hv.not_foot h1 (by decide) (by decide) (by decide)
  · exact hv.not_foot h1 (by decide) (by decide) (by decide)
theorem RV.foot_lt2 {w : World} {g b : Nat} {vl vq vk : Value} {D : Dk.Disk} (h : RV w g vl vq vk D) (hf : RFoot w g b) : b < w.heap.size := by
  obtain ⟨cs, t, z, h1, _⟩ := h.types hf
  exact (Array.getElem?_eq_some_iff.1 h1).1
/-- What happens to the program's disk is nothing to the reference's. -/
theorem RAt.aside {w w' : World} {d x : Nat} {D E : Dk.Disk} (k : RAt w x E) (h : DiskAt w d D) (m : Mv d w w') : RAt w' x E ∧ ∀ b, RFoot w' x b → RFoot w x b := by
  have hs : ∀ b, RFoot w x b → w'.heap[b]? = w.heap[b]? := fun b hb => by
    have k2 := k
    obtain ⟨vl, vq, vk, hr⟩ := k2
    exact m.block b (hr.foot_lt2 hb) (feet h k hb)
  have h2 := h
  obtain ⟨vs, q, kk, hv⟩ := h2
  obtain ⟨vl, vq, vk, hr⟩ := k
  refine ⟨⟨vl, vq, vk, ⟨(hs x (.inl rfl)).trans hr.blk, own_same hr.last fun b hb => hs b (hr.lfoot hb), own_same hr.pend fun b hb => hs b (hr.qfoot hb), own_same hr.keep fun b hb => ?_, hr.good⟩⟩, fun b hb => rfoot_same (hs x (.inl rfl)) hb⟩
  refine m.block b (own_lt hr.keep hb) ?_
  rcases hr.keep.2 with ⟨rfl, _⟩ | ⟨g', cap, cur, rfl, _, hg, _⟩
  · cases hb
  · injection hb with hb
    change g' = b at hb
    subst hb
    exact hv.not_foot hg (by decide) (by decide) (by decide)
/-- What happens to the reference's disk is nothing to the program's. -/
theorem DiskAt.raside {w w' : World} {d x : Nat} {D E : Dk.Disk} (h : DiskAt w d D) (k : RAt w x E) (m : RMv x w w') : DiskAt w' d D ∧ ∀ b, Foot w' d b → Foot w d b := by
  obtain ⟨vs, q, kk, hv⟩ := h
  have hs : ∀ b, Foot w d b → w'.heap[b]? = w.heap[b]? := fun b hb => m.block b (hv.foot_lt hb) (fun hf => feet ⟨vs, q, kk, hv⟩ k hf hb)
  refine ⟨⟨vs, q, kk, hv.frame hs fun b ha hk => m.block b (hv.keep_lt ha hk) ?_⟩, fun b hb => foot_same (hs d (.inl rfl)) hb⟩
  intro hf
  obtain ⟨vl, vq, vk, hr⟩ := k
  obtain ⟨cs, t, z, h1, h2⟩ := hr.types hf
  rcases (hv.keep ha).2 with ⟨rfl, _⟩ | ⟨g', cap, cur, rfl, _, hg, _⟩
  · cases hk
  · injection hk with hk
    change g' = b at hk
    subst hk
    rw [hg] at h1
    injection h1 with h1
    injection h1 with _ h3 _
    rcases h2 with e | e | e <;> rw [e] at h3 <;> exact absurd h3 (by decide)
/-- Both, in the same state. -/
structure Both (w0 w : World) (d x : Nat) (D : Dk.Disk) (E : Dk.Disk) : Prop where
  p : Mine w0 w d D
  r : RMine w0 w x E
section
variable {w0 w w' : World} {d x : Nat} {D D' E E' : Dk.Disk}
theorem Both.left (h : Both w0 w d x D E) (m : MM w0 w w' d D') : Both w0 w' d x D' E := by
  obtain ⟨a, b⟩ := h.r.at_.aside h.p.at_ m.mv
  exact ⟨m.mine, a, m.mine.below, fun y hy => h.r.foot y (b y hy)⟩
theorem Both.right (h : Both w0 w d x D E) (m : RMM w0 w w' x E') : Both w0 w' d x D E' := by
  obtain ⟨a, b⟩ := h.p.at_.raside h.r.at_ m.mv
  exact ⟨⟨a, m.mine.below, fun y hy => h.p.foot y (b y hy)⟩, m.mine⟩
theorem Both.quiet (h : Both w0 w d x D E) (hb : Below w.heap.size w w') : Both w0 w' d x D E := ⟨h.p.quiet hb, h.r.quiet hb⟩
theorem Both.mm (h : Both w0 w d x D E) : MM w0 w w d D := ⟨h.p, Mv.refl _ _⟩
theorem Both.rmm (h : Both w0 w d x D E) : RMM w0 w w x E := ⟨h.r, RMv.refl _ _⟩
theorem both_do (h : Both w0 w d x D E) (a : Dk.Act) (ka : Option Addr) (kb koff kn kcap : Nat) (hA : AC w0 a ka kb koff kn kcap) (hs : a.s.length ≤ 1000000) (hq : D.queue.length + a.s.length ≤ 1000000) (hkl : kn ≤ 100000000) :
    Calls Try.prog 13 #[.pointer (some ⟨d, 0, none⟩), .agg #[.int .i64 a.do_, .int .i64 a.f, .int .i64 a.g, .int .i64 a.n, .string (enc a.s), .slice ka kn kcap]] w fun e w' => e = .returned (.tuple #[.string (enc (Dk.act D a).1.1), .int .i64 (Dk.ec (Dk.act D a).1.2)]) ∧ Both w0 w' d x (Dk.act D a).2 E :=
  (dm_any a (enc a.s) rfl ka kb koff kn kcap w0 w w d D h.mm hA hs hq hkl).mono fun _ _ ⟨h1, h2⟩ => ⟨h1, h.left h2⟩
theorem both_twin (h : Both w0 w d x D E) (a : Dk.Act) (ka : Option Addr) (kb koff kn kcap : Nat) (hA : AC w0 a ka kb koff kn kcap) (hs : a.s.length ≤ 1000000) (hq : E.queue.length + a.s.length ≤ 1000000) (hkl : kn ≤ 100000000) :
    Calls Try.prog 14 #[.pointer (some ⟨x, 0, none⟩), .agg #[.int .i64 a.do_, .int .i64 a.f, .int .i64 a.g, .int .i64 a.n, .string (enc a.s), .slice ka kn kcap]] w fun e w' => e = .returned (.tuple #[.string (enc (Dk.act E a).1.1), .int .i64 (Dk.ec (Dk.act E a).1.2)]) ∧ Both w0 w' d x D (Dk.act E a).2 :=
  (rm_any a (enc a.s) rfl ka kb koff kn kcap w0 w w x E h.rmm hA hs hq hkl).mono fun _ _ ⟨h1, h2⟩ => ⟨h1, h.right h2⟩
end
end Go.Proofs.Ytbelmadbjiiodaa
