import Derived.Test.YtgjomknpjigkhaaGreatDoorS11
import Derived.Shelf.Small.Strs
namespace Go.Proofs.YtgjomknpjigkhaaGreatDoor
set_option maxRecDepth 100000
set_option maxHeartbeats 4000000
section
open Go.RowKit
def isLow (x:Int):Bool:=decide (97≤x) && decide (x≤122)
def isCap (x:Int):Bool:=decide (65≤x) && decide (x≤90)
def isDig (x:Int):Bool:=decide (48≤x) && decide (x≤57)
theorem isSmall_calls {w:World} (x:Int):Calls Tryz.prog 242 #[.int .u8 x] w fun e w'=>e=.returned (.bool (isLow x))∧w' = w:=by
 by_cases h1:97≤x
 ·by_cases h2:x≤122
  ·have hs:isLow x=true:=by simp [isLow,h1,h2]
   rw [hs]
   go_enter Tryz.func242,Tryz.ntmps242
   go_wp2_with fail
   go_ret
   exact ⟨rfl,rfl⟩
  ·have hs:isLow x=false:=by simp [isLow,h2]
   rw [hs]
   go_enter Tryz.func242,Tryz.ntmps242
   go_wp2_with fail
   go_ret
   exact ⟨rfl,rfl⟩
 ·have hs:isLow x=false:=by simp [isLow,h1]
  rw [hs]
  go_enter Tryz.func242,Tryz.ntmps242
  go_wp2_with fail
  go_ret
  exact ⟨rfl,rfl⟩
theorem isGreat_calls {w:World} (x:Int):Calls Tryz.prog 244 #[.int .u8 x] w fun e w'=>e=.returned (.bool (isCap x))∧w' = w:=by
 by_cases h1:65≤x
 ·by_cases h2:x≤90
  ·have hs:isCap x=true:=by simp [isCap,h1,h2]
   rw [hs]
   go_enter Tryz.func244,Tryz.ntmps244
   go_wp2_with fail
   go_ret
   exact ⟨rfl,rfl⟩
  ·have hs:isCap x=false:=by simp [isCap,h2]
   rw [hs]
   go_enter Tryz.func244,Tryz.ntmps244
   go_wp2_with fail
   go_ret
   exact ⟨rfl,rfl⟩
 ·have hs:isCap x=false:=by simp [isCap,h1]
  rw [hs]
  go_enter Tryz.func244,Tryz.ntmps244
  go_wp2_with fail
  go_ret
  exact ⟨rfl,rfl⟩
theorem isDigit_calls {w:World} (x:Int):Calls Tryz.prog 245 #[.int .u8 x] w fun e w'=>e=.returned (.bool (isDig x))∧w' = w:=by
 by_cases h1:48≤x
 ·by_cases h2:x≤57
  ·have hs:isDig x=true:=by simp [isDig,h1,h2]
   rw [hs]
   go_enter Tryz.func245,Tryz.ntmps245
   go_wp2_with fail
   go_ret
   exact ⟨rfl,rfl⟩
  ·have hs:isDig x=false:=by simp [isDig,h2]
   rw [hs]
   go_enter Tryz.func245,Tryz.ntmps245
   go_wp2_with fail
   go_ret
   exact ⟨rfl,rfl⟩
 ·have hs:isDig x=false:=by simp [isDig,h1]
  rw [hs]
  go_enter Tryz.func245,Tryz.ntmps245
  go_wp2_with fail
  go_ret
  exact ⟨rfl,rfl⟩
end
section
open Go.RowKit
def ltr (s:ByteArray) (i:Nat):Int:=if h:i<s.size then (s[i].toNat:Int) else 0
theorem ltr_at {s:ByteArray} {i:Nat} (h:i<s.size):((s[i]'h).toNat:Int)=ltr s i:=by unfold ltr;rw [dif_pos h]
def spanFrom (p:Int→Bool) (s:ByteArray) (i:Nat):Nat→Nat
 | 0=>i
 | k+1=>if p (ltr s i) then spanFrom p s (i+1) k else i
def spanOf (p:Int→Bool) (s:ByteArray):Nat:=spanFrom p s 0 s.size
theorem spanFrom_le (p:Int→Bool) (s:ByteArray) (i k:Nat):i≤spanFrom p s i k∧spanFrom p s i k≤i+k:=by
 induction k generalizing i with
 | zero=>simp [spanFrom]
 | succ k ih=>
  simp only [spanFrom]
  split
  ·have:=ih (i+1);omega
  ·omega
theorem spanOf_le (p:Int→Bool) (s:ByteArray):spanOf p s≤s.size:=by have:=spanFrom_le p s 0 s.size;unfold spanOf;omega
def notEol (x:Int):Bool:=!(x == 10)
def isWord (x:Int):Bool:=isLow x || isDig x
theorem notEol_calls {w:World} (x:Int):Calls Tryz.prog 196 #[.int .u8 x] w fun e w'=>e=.returned (.bool (notEol x))∧w' = w:=by
 have hs:(x != 10)=notEol x:=rfl
 go_enter Tryz.func196,Tryz.ntmps196
 go_wp2_with fail
 go_ret
 exact ⟨by show Ending.returned (.bool (x != 10))=_;rw [hs],rfl⟩
theorem isWord_calls {w:World} (x:Int):Calls Tryz.prog 286 #[.int .u8 x] w fun e w'=>e=.returned (.bool (isWord x))∧w' = w:=by
 have hl:=hide (fun w=>isSmall_calls (w:=w) x)
 have hd:=hide (fun w=>isDigit_calls (w:=w) x)
 have hw:isWord x=(isLow x || isDig x):=rfl
 have Hw:=hide hw
 clear hw
 cases h1:isLow x with
 | true=>
  rw [h1] at hl Hw
  go_enter Tryz.func286,Tryz.ntmps286
  go_wp2_with fail
  refine (hl.out _).mono ?_
  rintro e w1 ⟨rfl,rfl⟩
  go_wp2_with fail
  go_ret
  exact ⟨by rw [Hw.out];rfl,rfl⟩
 | false=>
  rw [h1] at hl Hw
  go_enter Tryz.func286,Tryz.ntmps286
  go_wp2_with fail
  refine (hl.out _).mono ?_
  rintro e w1 ⟨rfl,rfl⟩
  go_wp2_with fail
  refine (hd.out _).mono ?_
  rintro e w1 ⟨rfl,rfl⟩
  go_wp2_with fail
  go_ret
  exact ⟨by rw [Hw.out];rfl,rfl⟩
theorem span_isDig {w:World} (s:ByteArray) (hs:s.size≤10000000) :
  Calls Tryz.prog 195 #[.string s,.func (.func 245) #[] #[]] w fun e w'=>e=.returned (.int .i64 (spanOf isDig s))∧w' = w:=by
 have Hf:=hide (fun (w:World) (x:Int)=>isDigit_calls (w:=w) x)
 go_enter Tryz.func195,Tryz.ntmps195
 go_wp2_with fail
 go_loopw [8] (fun y wr=>∃ i:Nat,y=.int .i64 i∧i≤s.size∧spanOf isDig s=spanFrom isDig s i (s.size - i)∧wr=w) (fun y _=>((s.size:Int) - intOf y).toNat)
 case atStart=>exact ⟨0,rfl,by omega,rfl,rfl⟩
 case round=>
  obtain ⟨i,rfl,hi,hsp,rfl⟩:=hrel
  by_cases hil:i<s.size
  ·have hiI:(i:Int)<s.size:=by omega
   rw [show s.size - i=(s.size - (i+1))+1 by omega,spanFrom] at hsp
   have Hsp:=hide hsp
   clear hsp
   have hl:=ltr_at hil
   go_wp2_with fail
   refine (Hf.out _ _).mono ?_
   rintro e w1 ⟨rfl,rfl⟩
   cases hp:isDig (ltr s i) with
   | true=>
    go_wp2_with fail
    go_roundw
    ·exact ⟨i+1,by simp,by omega,by rw [Hsp.out,if_pos hp],trivial⟩
    ·simp only [intOf];omega
   | false=>
    go_wp2_with fail
    go_ret
    exact ⟨by show Ending.returned (.int .i64 ((i:Nat):Int))=_;rw [Hsp.out,if_neg (by simp [hp])],rfl⟩
  ·have hiI:¬ (i:Int)<s.size:=by omega
   have e:i=s.size:=by omega
   rw [e,Nat.sub_self,spanFrom] at hsp
   have Hsp:=hide hsp
   clear hsp e
   go_wp2_with fail
   go_ret
   exact ⟨by show Ending.returned (.int .i64 ((s.size:Nat):Int))=_;rw [Hsp.out],rfl⟩
theorem span_isWord {w:World} (s:ByteArray) (hs:s.size≤10000000) :
  Calls Tryz.prog 195 #[.string s,.func (.func 286) #[] #[]] w fun e w'=>e=.returned (.int .i64 (spanOf isWord s))∧w' = w:=by
 have Hf:=hide (fun (w:World) (x:Int)=>isWord_calls (w:=w) x)
 go_enter Tryz.func195,Tryz.ntmps195
 go_wp2_with fail
 go_loopw [8] (fun y wr=>∃ i:Nat,y=.int .i64 i∧i≤s.size∧spanOf isWord s=spanFrom isWord s i (s.size - i)∧wr=w) (fun y _=>((s.size:Int) - intOf y).toNat)
 case atStart=>exact ⟨0,rfl,by omega,rfl,rfl⟩
 case round=>
  obtain ⟨i,rfl,hi,hsp,rfl⟩:=hrel
  by_cases hil:i<s.size
  ·have hiI:(i:Int)<s.size:=by omega
   rw [show s.size - i=(s.size - (i+1))+1 by omega,spanFrom] at hsp
   have Hsp:=hide hsp
   clear hsp
   have hl:=ltr_at hil
   go_wp2_with fail
   refine (Hf.out _ _).mono ?_
   rintro e w1 ⟨rfl,rfl⟩
   cases hp:isWord (ltr s i) with
   | true=>
    go_wp2_with fail
    go_roundw
    ·exact ⟨i+1,by simp,by omega,by rw [Hsp.out,if_pos hp],trivial⟩
    ·simp only [intOf];omega
   | false=>
    go_wp2_with fail
    go_ret
    exact ⟨by show Ending.returned (.int .i64 ((i:Nat):Int))=_;rw [Hsp.out,if_neg (by simp [hp])],rfl⟩
  ·have hiI:¬ (i:Int)<s.size:=by omega
   have e:i=s.size:=by omega
   rw [e,Nat.sub_self,spanFrom] at hsp
   have Hsp:=hide hsp
   clear hsp e
   go_wp2_with fail
   go_ret
   exact ⟨by show Ending.returned (.int .i64 ((s.size:Nat):Int))=_;rw [Hsp.out],rfl⟩
theorem span_notEol {w:World} (s:ByteArray) (hs:s.size≤10000000) :
  Calls Tryz.prog 195 #[.string s,.func (.func 196) #[] #[]] w fun e w'=>e=.returned (.int .i64 (spanOf notEol s))∧w' = w:=by
 have Hf:=hide (fun (w:World) (x:Int)=>notEol_calls (w:=w) x)
 go_enter Tryz.func195,Tryz.ntmps195
 go_wp2_with fail
 go_loopw [8] (fun y wr=>∃ i:Nat,y=.int .i64 i∧i≤s.size∧spanOf notEol s=spanFrom notEol s i (s.size - i)∧wr=w) (fun y _=>((s.size:Int) - intOf y).toNat)
 case atStart=>exact ⟨0,rfl,by omega,rfl,rfl⟩
 case round=>
  obtain ⟨i,rfl,hi,hsp,rfl⟩:=hrel
  by_cases hil:i<s.size
  ·have hiI:(i:Int)<s.size:=by omega
   rw [show s.size - i=(s.size - (i+1))+1 by omega,spanFrom] at hsp
   have Hsp:=hide hsp
   clear hsp
   have hl:=ltr_at hil
   go_wp2_with fail
   refine (Hf.out _ _).mono ?_
   rintro e w1 ⟨rfl,rfl⟩
   cases hp:notEol (ltr s i) with
   | true=>
    go_wp2_with fail
    go_roundw
    ·exact ⟨i+1,by simp,by omega,by rw [Hsp.out,if_pos hp],trivial⟩
    ·simp only [intOf];omega
   | false=>
    go_wp2_with fail
    go_ret
    exact ⟨by show Ending.returned (.int .i64 ((i:Nat):Int))=_;rw [Hsp.out,if_neg (by simp [hp])],rfl⟩
  ·have hiI:¬ (i:Int)<s.size:=by omega
   have e:i=s.size:=by omega
   rw [e,Nat.sub_self,spanFrom] at hsp
   have Hsp:=hide hsp
   clear hsp e
   go_wp2_with fail
   go_ret
   exact ⟨by show Ending.returned (.int .i64 ((s.size:Nat):Int))=_;rw [Hsp.out],rfl⟩
end
section
open Go.RowKit
def gaveUp (c l:Int):Ending:=.panicked [{ v:=.iface 28 (.agg #[.int .i64 c,.int .i64 l]),recovered:=false }]
theorem giveUp_calls {w:World} (c l:Int):Calls Tryz.prog 132 #[.int .i64 c,.int .i64 l] w fun e w'=>e=gaveUp c l∧w' = w:=by
 go_enter Tryz.func132,Tryz.ntmps132
 go_wp2_with fail
 exact ⟨rfl,rfl,rfl⟩
theorem forbidLonger_ok {w:World} (a b l:Int) (h:¬ b<a):Calls Tryz.prog 246 #[.int .i64 a,.int .i64 b,.int .i64 l] w fun e w'=>e=.returned (.tuple #[])∧w' = w:=by
 go_enter Tryz.func246,Tryz.ntmps246
 go_wp2_with fail
 go_end0
 exact ⟨rfl,rfl⟩
theorem forbidLonger_bad {w:World} (a b l:Int) (h:b<a):Calls Tryz.prog 246 #[.int .i64 a,.int .i64 b,.int .i64 l] w fun e w'=>e=gaveUp 5 l∧w' = w:=by
 have hg:=hide (fun w=>giveUp_calls (w:=w) 5 l)
 go_enter Tryz.func246,Tryz.ntmps246
 go_wp2_with fail
 refine (hg.out _).mono ?_
 rintro e w1 ⟨rfl,rfl⟩
 exact ⟨rfl,rfl,rfl⟩
def strName:ByteArray:=⟨#[78,65,77,69]⟩
def wordKind (s:ByteArray):ByteArray:=if (s.toList == [100,111,109])=true∨(s.toList == [114,101,108])=true then s else strName
theorem cutName_bad {w:World} (s:ByteArray) (hs:s.size≤10000000) (l:Int) (h:6<spanOf isWord s):Calls Tryz.prog 243 #[.string s,.int .i64 l] w fun e w'=>e=gaveUp 5 l∧w' = w:=by
 have h1:=hide (fun w=>span_isWord (w:=w) s hs)
 have h2:=hide (fun w=>forbidLonger_bad (w:=w) (spanOf isWord s) 6 l (by omega))
 go_enter Tryz.func243,Tryz.ntmps243
 go_wp2_with fail
 refine (h1.out _).mono ?_
 rintro e w1 ⟨rfl,rfl⟩
 go_wp2_with fail
 refine (h2.out _).mono ?_
 rintro e w1 ⟨rfl,rfl⟩
 exact ⟨rfl,rfl,rfl⟩
theorem cutName_ok {w:World} (s:ByteArray) (hs:s.size≤10000000) (l:Int) (h:spanOf isWord s≤6):Calls Tryz.prog 243 #[.string s,.int .i64 l] w fun e w'=>e=.returned (.tuple #[.string (wordKind (s.extract 0 (spanOf isWord s))),.int .i64 (spanOf isWord s)])∧w' = w:=by
 have h1:=hide (fun w=>span_isWord (w:=w) s hs)
 have h2:=hide (fun w=>forbidLonger_ok (w:=w) (spanOf isWord s) 6 l (by omega))
 have hle:=spanOf_le isWord s
 generalize spanOf isWord s=n at h1 h2 hle h ⊢
 have hnI:(n:Int)≤s.size:=by omega
 cases hd:((s.extract 0 n).toList == [100,111,109]) with
 | true=>
  have hk:wordKind (s.extract 0 n)=s.extract 0 n:=by unfold wordKind;rw [if_pos (.inl hd)]
  rw [hk]
  go_enter Tryz.func243,Tryz.ntmps243
  go_wp2_with fail
  refine (h1.out _).mono ?_
  rintro e w1 ⟨rfl,rfl⟩
  go_wp2_with fail
  refine (h2.out _).mono ?_
  rintro e w1 ⟨rfl,rfl⟩
  go_wp2_with fail
  go_ret2
  exact ⟨rfl,rfl⟩
 | false=>
  cases hr:((s.extract 0 n).toList == [114,101,108]) with
  | true=>
   have hk:wordKind (s.extract 0 n)=s.extract 0 n:=by unfold wordKind;rw [if_pos (.inr hr)]
   rw [hk]
   go_enter Tryz.func243,Tryz.ntmps243
   go_wp2_with fail
   refine (h1.out _).mono ?_
   rintro e w1 ⟨rfl,rfl⟩
   go_wp2_with fail
   refine (h2.out _).mono ?_
   rintro e w1 ⟨rfl,rfl⟩
   go_wp2_with fail
   go_ret2
   exact ⟨rfl,rfl⟩
  | false=>
   have hk:wordKind (s.extract 0 n)=strName:=by unfold wordKind;rw [if_neg (by simp [hd,hr])]
   rw [hk]
   go_enter Tryz.func243,Tryz.ntmps243
   go_wp2_with fail
   refine (h1.out _).mono ?_
   rintro e w1 ⟨rfl,rfl⟩
   go_wp2_with fail
   refine (h2.out _).mono ?_
   rintro e w1 ⟨rfl,rfl⟩
   go_wp2_with fail
   go_ret2
   exact ⟨rfl,rfl⟩
end
section
open Go.RowKit
def lays137_ren:Go.Shelf.Ren:=⟨fun | 137=>247 | 217=>287 | 266=>297 | x=>x,fun x=>x,fun x=>x⟩
theorem lays137:Go.Proofs.Lays.n137 Tryz.prog lays137_ren:={
 mixed:=by kernel_rfl
 f137:=Tryz.func247.trans (congrArg some (by kernel_rfl))
 f217:=Tryz.func287.trans (congrArg some (by kernel_rfl))
 f266:=Tryz.func297.trans (congrArg some (by kernel_rfl))
 t3:=Tryz.underlying3
 a3:=Tryz.isAgg3
 z3:=Tryz.sizeOf3
 v3:=Tryz.zeroValue3
 t5:=Tryz.underlying5
 a5:=Tryz.isAgg5
 z5:=Tryz.sizeOf5
 v5:=Tryz.zeroValue5
 t9:=Tryz.underlying9
 a9:=Tryz.isAgg9
 z9:=Tryz.sizeOf9
 v9:=Tryz.zeroValue9 }
theorem indexByte_calls {w:World} (s:ByteArray) (c:Int):Calls Tryz.prog 247 #[.string s,.int .u8 c] w fun e w'=>e=.returned (.int .i64 (Lib.indexByte s.data.toList c.toNat.toUInt8))∧w' = w:=Go.Proofs.Any.strings_IndexByte lays137 s c w
def isMark (c:Int):Bool:=c == 40 || c == 41 || c == 44 || c == 59 || c == 46 || c == 33
theorem marks_iff (c:Int) (h0:0≤c) (h1:c<256):(0≤Lib.indexByte [40,41,44,59,46,33] c.toNat.toUInt8)↔isMark c=true:=by
 obtain ⟨n,rfl⟩:∃ n:Nat,c=n:=⟨c.toNat,by omega⟩
 have hn:n<256:=by omega
 rw [Int.toNat_natCast]
 have key:∀ k:Fin 256,(0≤Lib.indexByte [40,41,44,59,46,33] k.val.toUInt8)↔isMark (k.val:Int)=true:=by decide +kernel
 exact key ⟨n,hn⟩
def isArrow (s:ByteArray):Bool:=decide (2≤s.size) && ((s.extract 0 2).toList == [58,45])
theorem arrow288 {w:World} (s:ByteArray):Calls Tryz.prog 288 #[.string s,.string ⟨#[58,45]⟩] w fun e w'=>e=.returned (.bool (isArrow s))∧w' = w:=by
 by_cases h2:2≤s.size
 ·have hI:(2:Int)≤s.size:=by omega
  have hk:isArrow s=((s.extract 0 2).toList == [58,45]):=by unfold isArrow;simp [h2]
  rw [hk]
  go_enter Tryz.func288,Tryz.ntmps288
  go_wp2_with fail
  go_ret
  exact ⟨rfl,rfl⟩
 ·have hI:¬ (2:Int)≤s.size:=by omega
  have hk:isArrow s=false:=by unfold isArrow;simp [h2]
  rw [hk]
  go_enter Tryz.func288,Tryz.ntmps288
  go_wp2_with fail
  go_ret
  exact ⟨rfl,rfl⟩
theorem arrow_calls {w:World} (s:ByteArray):Calls Tryz.prog 248 #[.string s,.string ⟨#[58,45]⟩] w fun e w'=>e=.returned (.bool (isArrow s))∧w' = w:=by
 have hp:=hide (fun w=>arrow288 (w:=w) s)
 go_enter Tryz.func248,Tryz.ntmps248
 go_wp2_with fail
 refine (hp.out _).mono ?_
 rintro e w1 ⟨rfl,rfl⟩
 go_wp2_with fail
 go_ret
 exact ⟨rfl,rfl⟩
end
section
open Go.RowKit
def strVar:ByteArray:=⟨#[86,65,82]⟩
def strInt:ByteArray:=⟨#[73,78,84]⟩
def strArrow:ByteArray:=⟨#[58,45]⟩
def cutOf (s:ByteArray):Option (ByteArray×Nat):=
 if isLow (ltr s 0) then (if spanOf isWord s≤6 then some (wordKind (s.extract 0 (spanOf isWord s)),spanOf isWord s) else none)
 else if isCap (ltr s 0) then some (strVar,1+spanOf isDig (s.extract 1 (min 2 s.size)))
 else if isDig (ltr s 0) then (if spanOf isDig s≤2 then some (strInt,spanOf isDig s) else none)
 else if isMark (ltr s 0) then some (s.extract 0 1,1)
 else if isArrow s then some (strArrow,2) else none
def CutTo (r:Option (ByteArray×Nat)) (l:Int) (e:Ending):Prop:=match r with
 | some (k,n)=>e=.returned (.tuple #[.string k,.int .i64 n])
 | none=>e=gaveUp 5 l
theorem cut_calls {w:World} (s:ByteArray) (h0:0<s.size) (hs:s.size≤10000000) (l:Int):Calls Tryz.prog 197 #[.string s,.int .i64 l] w fun e w'=>CutTo (cutOf s) l e∧w' = w:=by
 have hl:=ltr_at h0
 have h0I:(0:Int)<s.size:=by omega
 have hL:=hide (fun (w:World) (x:Int)=>isSmall_calls (w:=w) x)
 have hG:=hide (fun (w:World) (x:Int)=>isGreat_calls (w:=w) x)
 have hD:=hide (fun (w:World) (x:Int)=>isDigit_calls (w:=w) x)
 unfold cutOf
 cases h1:isLow (ltr s 0) with
 | true=>
  rw [if_pos rfl]
  by_cases h6:spanOf isWord s≤6
  ·rw [if_pos h6]
   have hc:=hide (fun w=>cutName_ok (w:=w) s hs l h6)
   generalize spanOf isWord s=n at hc ⊢
   go_enter Tryz.func197,Tryz.ntmps197
   go_wp2_with fail
   refine (hL.out _ _).mono ?_
   rintro e w1 ⟨rfl,rfl⟩
   rw [h1]
   go_wp2_with fail
   refine (hc.out _).mono ?_
   rintro e w1 ⟨rfl,rfl⟩
   go_wp2_with fail
   go_ret2
   exact ⟨rfl,rfl⟩
  ·rw [if_neg h6]
   have hc:=hide (fun w=>cutName_bad (w:=w) s hs l (by omega))
   go_enter Tryz.func197,Tryz.ntmps197
   go_wp2_with fail
   refine (hL.out _ _).mono ?_
   rintro e w1 ⟨rfl,rfl⟩
   rw [h1]
   go_wp2_with fail
   refine (hc.out _).mono ?_
   rintro e w1 ⟨rfl,rfl⟩
   exact ⟨rfl,rfl,rfl⟩
 | false=>
  rw [if_neg (by simp)]
  cases h2:isCap (ltr s 0) with
  | true=>
   rw [if_pos rfl]
   have hx:=hide (fun w=>span_isDig (w:=w) (s.extract 1 (min 2 s.size)) (by rw [ByteArray.size_extract];omega))
   have hnl:=spanOf_le isDig (s.extract 1 (min 2 s.size))
   rw [ByteArray.size_extract] at hnl
   generalize spanOf isDig (s.extract 1 (min 2 s.size))=n at hx hnl ⊢
   have hm:min 2 s.size≤s.size:=Nat.min_le_right _ _
   have hm1:1≤min 2 s.size:=by omega
   have hmI:min (2:Int) (s.size:Int)=((min 2 s.size:Nat):Int):=by omega
   go_enter Tryz.func197,Tryz.ntmps197
   go_wp2_with fail
   refine (hL.out _ _).mono ?_
   rintro e w1 ⟨rfl,rfl⟩
   rw [h1]
   go_wp2_with fail
   refine (hG.out _ _).mono ?_
   rintro e w1 ⟨rfl,rfl⟩
   rw [h2]
   go_wp2_with fail
   refine (hx.out _).mono ?_
   rintro e w1 ⟨rfl,rfl⟩
   go_wp2_with fail
   go_ret2
   exact ⟨rfl,rfl⟩
  | false=>
   rw [if_neg (by simp)]
   cases h3:isDig (ltr s 0) with
   | true=>
    rw [if_pos rfl]
    have hx:=hide (fun w=>span_isDig (w:=w) s hs)
    by_cases h6:spanOf isDig s≤2
    ·rw [if_pos h6]
     have hf:=hide (fun w=>forbidLonger_ok (w:=w) (spanOf isDig s) 2 l (by omega))
     generalize spanOf isDig s=n at hx hf ⊢
     go_enter Tryz.func197,Tryz.ntmps197
     go_wp2_with fail
     refine (hL.out _ _).mono ?_
     rintro e w1 ⟨rfl,rfl⟩
     rw [h1]
     go_wp2_with fail
     refine (hG.out _ _).mono ?_
     rintro e w1 ⟨rfl,rfl⟩
     rw [h2]
     go_wp2_with fail
     refine (hD.out _ _).mono ?_
     rintro e w1 ⟨rfl,rfl⟩
     rw [h3]
     go_wp2_with fail
     refine (hx.out _).mono ?_
     rintro e w1 ⟨rfl,rfl⟩
     go_wp2_with fail
     refine (hf.out _).mono ?_
     rintro e w1 ⟨rfl,rfl⟩
     go_wp2_with fail
     go_ret2
     exact ⟨rfl,rfl⟩
    ·rw [if_neg h6]
     have hf:=hide (fun w=>forbidLonger_bad (w:=w) (spanOf isDig s) 2 l (by omega))
     go_enter Tryz.func197,Tryz.ntmps197
     go_wp2_with fail
     refine (hL.out _ _).mono ?_
     rintro e w1 ⟨rfl,rfl⟩
     rw [h1]
     go_wp2_with fail
     refine (hG.out _ _).mono ?_
     rintro e w1 ⟨rfl,rfl⟩
     rw [h2]
     go_wp2_with fail
     refine (hD.out _ _).mono ?_
     rintro e w1 ⟨rfl,rfl⟩
     rw [h3]
     go_wp2_with fail
     refine (hx.out _).mono ?_
     rintro e w1 ⟨rfl,rfl⟩
     go_wp2_with fail
     refine (hf.out _).mono ?_
     rintro e w1 ⟨rfl,rfl⟩
     exact ⟨rfl,rfl,rfl⟩
   | false=>
    rw [if_neg (by simp)]
    have hi:=hide (fun w=>indexByte_calls (w:=w) ⟨#[40,41,44,59,46,33]⟩ (ltr s 0))
    have hiff:=marks_iff (ltr s 0) (by rw [←hl];omega) (by rw [←hl];have:=(s[0]'h0).toNat_lt;omega)
    generalize hr:Lib.indexByte (⟨#[40,41,44,59,46,33]⟩:ByteArray).data.toList (ltr s 0).toNat.toUInt8=r at hi
    have hiff':0≤r↔isMark (ltr s 0)=true:=by rw [←hr];exact hiff
    clear hiff hr
    cases h4:isMark (ltr s 0) with
    | true=>
     rw [if_pos rfl]
     have hr0:0≤r:=hiff'.2 h4
     clear hiff'
     go_enter Tryz.func197,Tryz.ntmps197
     go_wp2_with fail
     refine (hL.out _ _).mono ?_
     rintro e w1 ⟨rfl,rfl⟩
     rw [h1]
     go_wp2_with fail
     refine (hG.out _ _).mono ?_
     rintro e w1 ⟨rfl,rfl⟩
     rw [h2]
     go_wp2_with fail
     refine (hD.out _ _).mono ?_
     rintro e w1 ⟨rfl,rfl⟩
     rw [h3]
     go_wp2_with fail
     refine (hi.out _).mono ?_
     rintro e w1 ⟨rfl,rfl⟩
     go_wp2_with fail
     go_ret2
     exact ⟨rfl,rfl⟩
    | false=>
     rw [if_neg (by simp)]
     have hr0:¬ 0≤r:=fun h=>by rw [hiff'.1 h] at h4;cases h4
     clear hiff'
     have ha:=hide (fun w=>arrow_calls (w:=w) s)
     have hg:=hide (fun w=>giveUp_calls (w:=w) 5 l)
     cases h5:isArrow s with
     | true=>
      rw [if_pos rfl]
      rw [h5] at ha
      go_enter Tryz.func197,Tryz.ntmps197
      go_wp2_with fail
      refine (hL.out _ _).mono ?_
      rintro e w1 ⟨rfl,rfl⟩
      rw [h1]
      go_wp2_with fail
      refine (hG.out _ _).mono ?_
      rintro e w1 ⟨rfl,rfl⟩
      rw [h2]
      go_wp2_with fail
      refine (hD.out _ _).mono ?_
      rintro e w1 ⟨rfl,rfl⟩
      rw [h3]
      go_wp2_with fail
      refine (hi.out _).mono ?_
      rintro e w1 ⟨rfl,rfl⟩
      go_wp2_with fail
      refine (ha.out _).mono ?_
      rintro e w1 ⟨rfl,rfl⟩
      go_wp2_with fail
      go_ret2
      exact ⟨rfl,rfl⟩
     | false=>
      rw [if_neg (by simp)]
      rw [h5] at ha
      go_enter Tryz.func197,Tryz.ntmps197
      go_wp2_with fail
      refine (hL.out _ _).mono ?_
      rintro e w1 ⟨rfl,rfl⟩
      rw [h1]
      go_wp2_with fail
      refine (hG.out _ _).mono ?_
      rintro e w1 ⟨rfl,rfl⟩
      rw [h2]
      go_wp2_with fail
      refine (hD.out _ _).mono ?_
      rintro e w1 ⟨rfl,rfl⟩
      rw [h3]
      go_wp2_with fail
      refine (hi.out _).mono ?_
      rintro e w1 ⟨rfl,rfl⟩
      go_wp2_with fail
      refine (ha.out _).mono ?_
      rintro e w1 ⟨rfl,rfl⟩
      go_wp2_with fail
      refine (hg.out _).mono ?_
      rintro e w1 ⟨rfl,rfl⟩
      exact ⟨rfl,rfl,rfl⟩
end
section
open Go.RowKit
structure Tk where
 kind:ByteArray
 text:ByteArray
 line:Nat
def scanOf:Nat→ByteArray→Nat→(List Tk×Nat) ⊕ Nat
 | 0,_,l=>.inl ([],l)
 | k+1,s,l=>
  if s.size=0 then .inl ([],l)
  else if ltr s 0=10 then scanOf k (s.extract 1 s.size) (l+1)
  else if ltr s 0=32∨ltr s 0=9 then scanOf k (s.extract 1 s.size) l
  else if ltr s 0=37 then scanOf k (s.extract (spanOf notEol s) s.size) l
  else match cutOf s with
   | none=>.inr l
   | some (kd,n)=>match scanOf k (s.extract n s.size) l with
    | .inl (ts,m)=>.inl (⟨kd,s.extract 0 n,l⟩ :: ts,m)
    | .inr m=>.inr m
theorem spanOf_pos {p:Int→Bool} {s:ByteArray} (h0:0<s.size) (h:p (ltr s 0)=true):1≤spanOf p s:=by
 unfold spanOf
 obtain ⟨k,hk⟩:∃ k,s.size=k+1:=⟨s.size - 1,by omega⟩
 rw [hk,spanFrom,if_pos h]
 exact (spanFrom_le p s 1 k).1
theorem arrow_size {s:ByteArray} (h:isArrow s=true):2≤s.size:=by
 unfold isArrow at h
 simp at h
 exact h.1
theorem cutOf_range {s:ByteArray} (h0:0<s.size) {k:ByteArray} {n:Nat} (h:cutOf s=some (k,n)):1≤n∧n≤s.size:=by
 unfold cutOf at h
 split at h
 ·rename_i hl
  split at h
  ·cases h
   exact ⟨spanOf_pos h0 (by unfold isWord;rw [hl];rfl),spanOf_le _ _⟩
  ·cases h
 ·split at h
  ·cases h
   have:=spanOf_le isDig (s.extract 1 (min 2 s.size))
   rw [ByteArray.size_extract] at this
   omega
  ·split at h
   ·rename_i hd
    split at h
    ·cases h
     exact ⟨spanOf_pos h0 hd,spanOf_le _ _⟩
    ·cases h
   ·split at h
    ·cases h
     omega
    ·split at h
     ·rename_i ha
      cases h
      have:=arrow_size ha
      omega
     ·cases h
end
section
def Once {A:Type} (l:List (ByteArray×A)):Prop:=∀ (i j:Nat) (a b:ByteArray×A),l[i]?=some a→l[j]?=some b→a.1=b.1→i=j
theorem placeIn_some {A:Type} {l:List (ByteArray×A)} {s:ByteArray} {p:Nat} (h:placeIn l s=some p):∃ a,l[p]?=some (s,a):=by
 unfold placeIn at h
 obtain ⟨hp,he,_⟩:=List.findIdx?_eq_some_iff_getElem.1 h
 have:l[p].1=s:=by simpa using he
 exact ⟨l[p].2,by rw [List.getElem?_eq_getElem hp,←this]⟩
theorem placeIn_none {A:Type} {l:List (ByteArray×A)} {s:ByteArray} (h:placeIn l s=none):∀ a∈l,a.1≠s:=by
 unfold placeIn at h
 intro a ha e
 have:=List.findIdx?_eq_none_iff.1 h a ha
 simp [e] at this
theorem Once.push {A:Type} {l:List (ByteArray×A)} (h:Once l) {s:ByteArray} (hs:placeIn l s=none) (a:A):Once (l++[(s,a)]):=by
 have hn:=placeIn_none hs
 intro i j x y hi hj e
 rw [List.getElem?_append] at hi hj
 split at hi
 ·split at hj
  ·exact h i j x y hi hj e
  ·exfalso
   have hy:y=(s,a):=by
    cases hk:j - l.length with
    | zero=>rw [hk] at hj;simpa using hj.symm
    | succ k=>rw [hk] at hj;simp at hj
   subst hy
   exact hn x (List.mem_of_getElem? hi) e
 ·split at hj
  ·exfalso
   have hy:x=(s,a):=by
    cases hk:i - l.length with
    | zero=>rw [hk] at hi;simpa using hi.symm
    | succ k=>rw [hk] at hi;simp at hi
   subst hy
   exact hn y (List.mem_of_getElem? hj) e.symm
  ·have h1:i - l.length=0:=by
    cases hk:i - l.length with
    | zero=>rfl
    | succ k=>rw [hk] at hi;simp at hi
   have h2:j - l.length=0:=by
    cases hk:j - l.length with
    | zero=>rfl
    | succ k=>rw [hk] at hj;simp at hj
   omega
def MatchT (sc:Scope) (t:Tn) (x:TermM):Prop:=x.isVar=isVarG t.g∧(x.isVar=true→∃ (p:Nat) (d:Nat),x.num=(p:Int)∧sc[p]?=some (txt t.g,d))
def MatchTs (sc:Scope):List Tn→List TermM→Prop
 | [],[]=>True
 | t :: ts,x :: xs=>MatchT sc t x∧MatchTs sc ts xs
 | _,_=>False
def GrowsS (a b:Scope):Prop:=∃ l,b=a++l
theorem GrowsS.refl (a:Scope):GrowsS a a:=⟨[],by simp⟩
theorem GrowsS.trans {a b c:Scope} (h:GrowsS a b) (k:GrowsS b c):GrowsS a c:=by
 obtain ⟨l,rfl⟩:=h
 obtain ⟨m,rfl⟩:=k
 exact ⟨l++m,by simp⟩
theorem GrowsS.at {a b:Scope} (h:GrowsS a b) {p:Nat} {x:ByteArray×Nat} (hp:a[p]?=some x):b[p]?=some x:=by
 obtain ⟨l,rfl⟩:=h
 have hl:p<a.length:=by
  rcases Nat.lt_or_ge p a.length with h | h
  ·exact h
  ·rw [List.getElem?_eq_none h] at hp;cases hp
 rw [List.getElem?_append_left hl]
 exact hp
theorem MatchT.grows {a b:Scope} {t:Tn} {x:TermM} (h:MatchT a t x) (g:GrowsS a b):MatchT b t x:=⟨h.1,fun hv=>by
 obtain ⟨p,d,h1,h2⟩:=h.2 hv
 exact ⟨p,d,h1,g.at h2⟩⟩
theorem MatchTs.grows {a b:Scope} {ts:List Tn} {xs:List TermM} (h:MatchTs a ts xs) (g:GrowsS a b):MatchTs b ts xs:=by
 induction ts generalizing xs with
 | nil=>cases xs with
  | nil=>trivial
  | cons x xs=>exact h.elim
 | cons t ts ih=>cases xs with
  | nil=>exact h.elim
  | cons x xs=>exact ⟨h.1.grows g,ih h.2⟩
theorem termS_match {m:Mean} {sc sc':Scope} {t:Tn} {d:Nat} {x:TermM} (ho:Once sc) (h4:sc.length≤4) (h:termS m sc t d=.ok (x,sc')):MatchT sc' t x∧GrowsS sc sc'∧Once sc'∧sc'.length≤4:=by
 unfold termS at h
 split at h
 ·rename_i hv
  split at h
  ·rename_i p hp
   split at h
   ·cases h
   ·cases h
    obtain ⟨a,ha⟩:=placeIn_some hp
    exact ⟨⟨hv.symm,fun _=>⟨p,a,rfl,ha⟩⟩,GrowsS.refl _,ho,h4⟩
  ·rename_i hp
   split at h
   ·cases h
   ·rename_i h44
    cases h
    refine ⟨⟨hv.symm,fun _=>⟨sc.length,d,rfl,?_⟩⟩,⟨_,rfl⟩,ho.push hp d,?_⟩
    ·rw [List.getElem?_append_right (Nat.le_refl _)];simp
    ·rw [List.length_append,List.length_singleton];omega
 ·rename_i hv
  split at h
  ·cases h
  ·cases h
   exact ⟨⟨by simpa using hv,fun hc=>by cases hc⟩,GrowsS.refl _,ho,h4⟩
theorem termsS_match {m:Mean} {sc sc':Scope} {ts:List Tn} {ds:List Nat} {xs:List TermM} (hl:ts.length=ds.length) (ho:Once sc) (h4:sc.length≤4) (h:termsS m sc ts ds=.ok (xs,sc')):MatchTs sc' ts xs∧GrowsS sc sc'∧Once sc'∧sc'.length≤4:=by
 induction ts generalizing sc sc' ds xs with
 | nil=>simp only [termsS] at h;cases h;exact ⟨trivial,GrowsS.refl _,ho,h4⟩
 | cons t ts ih=>cases ds with
  | nil=>cases hl
  | cons d ds=>
   simp only [termsS] at h
   split at h
   ·cases h
   ·rename_i x sc1 h1
    obtain ⟨m1,g1,o1,l1⟩:=termS_match ho h4 h1
    split at h
    ·cases h
    ·rename_i xs' sc2 h2
     cases h
     obtain ⟨m2,g2,o2,l2⟩:=ih (by simpa using hl) o1 l1 h2
     exact ⟨⟨m1.grows g2,m2⟩,g1.trans g2,o2,l2⟩
theorem atomS_match {m:Mean} {sc sc':Scope} {a:AtomI} {x:AtomM} (ho:Once sc) (h4:sc.length≤4) (h:atomS m sc a=.ok (x,sc')):MatchTs sc' a.terms x.terms∧GrowsS sc sc'∧Once sc'∧sc'.length≤4:=by
 unfold atomS at h
 split at h
 ·cases h
 ·split at h
  ·cases h
  ·rename_i hl
   split at h
   ·cases h
   ·rename_i h1
    cases h
    exact termsS_match (by simpa using hl) ho h4 h1
def MatchLs (sc:Scope):List LitI→List (AtomM×Bool)→Prop
 | [],[]=>True
 | l :: ls,x :: xs=>MatchTs sc l.atom.terms x.1.terms∧x.2=l.no∧MatchLs sc ls xs
 | _,_=>False
theorem litsS_match {m:Mean} {sc sc':Scope} {k:Nat} {ls:List LitI} {xs:List (AtomM×Bool)} (ho:Once sc) (h4:sc.length≤4) (h:litsS m sc k ls=.ok (xs,sc')):MatchLs sc' ls xs∧GrowsS sc sc'∧Once sc'∧sc'.length≤4:=by
 induction ls generalizing sc sc' k xs with
 | nil=>simp only [litsS] at h;cases h;exact ⟨trivial,GrowsS.refl _,ho,h4⟩
 | cons l ls ih=>
  simp only [litsS] at h
  split at h
  ·cases h
  ·split at h
   ·cases h
   ·rename_i x sc1 h1
    obtain ⟨m1,g1,o1,l1⟩:=atomS_match ho h4 h1
    split at h
    ·cases h
    ·rename_i xs' sc2 h2
     cases h
     obtain ⟨m2,g2,o2,l2⟩:=ih o1 l1 h2
     exact ⟨⟨m1.grows g2,rfl,m2⟩,g1.trans g2,o2,l2⟩
def MatchC (c:AtomI×List LitI) (x:ClauseM):Prop:=∃ sc,Once sc∧sc.length≤4∧MatchTs sc c.1.terms x.head.terms∧MatchLs sc c.2 x.lits∧x.line=c.1.name.line
def MatchCs:List (AtomI×List LitI)→List ClauseM→Prop
 | [],[]=>True
 | c :: cs,x :: xs=>MatchC c x∧MatchCs cs xs
 | _,_=>False
theorem MatchCs.append {a b:List (AtomI×List LitI)} {x y:List ClauseM} (h:MatchCs a x) (k:MatchCs b y):MatchCs (a++b) (x++y):=by
 induction a generalizing x with
 | nil=>cases x with
  | nil=>exact k
  | cons _ _=>exact h.elim
 | cons c a ih=>cases x with
  | nil=>exact h.elim
  | cons z x=>exact ⟨h.1,ih h.2⟩
def clausesI:List ItemI→List (AtomI×List LitI)
 | []=>[]
 | .clause h ls :: is=>(h,ls) :: clausesI is
 | _ :: is=>clausesI is
def clauseI:ItemI→List (AtomI×List LitI)
 | .clause h ls=>[(h,ls)]
 | _=>[]
theorem addClause_match {m m':Mean} {a:AtomI} {ls:List LitI} (h:addClause m a ls=.ok m'):∃ x,m'.clauses=m.clauses++[x]∧MatchC (a,ls) x∧m'.doms=m.doms∧m'.rels=m.rels:=by
 unfold addClause at h
 split at h
 ·cases h
 ·split at h
  ·cases h
  ·rename_i x sc h1
   obtain ⟨m1,g1,o1,l1⟩:=atomS_match (sc:=[]) (by intro i j a b h;simp at h) (by simp) h1
   split at h
   ·cases h
   ·rename_i xs sc2 h2
    obtain ⟨m2,g2,o2,l2⟩:=litsS_match o1 l1 h2
    cases h
    exact ⟨_,rfl,⟨sc2,o2,l2,m1.grows g2,m2,rfl⟩,rfl,rfl⟩
theorem addItem_match {m m':Mean} {i:ItemI} {cs:List (AtomI×List LitI)} (hm:MatchCs cs m.clauses) (h:addItem m i=.ok m'):MatchCs (cs++clauseI i) m'.clauses:=by
 cases i with
 | dom n z=>
  simp only [addItem,addDom] at h
  split at h
  ·cases h
  ·split at h
   ·cases h
   ·split at h
    ·cases h
    ·cases h;simpa [clauseI] using hm
 | rel n z=>
  simp only [addItem,addRel] at h
  split at h
  ·cases h
  ·split at h
   ·cases h
   ·split at h
    ·cases h
    ·cases h;simpa [clauseI] using hm
 | clause a ls=>
  obtain ⟨x,h1,h2,_⟩:=addClause_match h
  rw [h1]
  exact hm.append ⟨h2,trivial⟩
theorem senseS_match {m m':Mean} {is:List ItemI} {cs:List (AtomI×List LitI)} (hm:MatchCs cs m.clauses) (h:senseS m is=.ok m'):MatchCs (cs++clausesI is) m'.clauses:=by
 induction is generalizing m cs with
 | nil=>simp only [senseS] at h;cases h;simpa [clausesI] using hm
 | cons i is ih=>
  simp only [senseS] at h
  split at h
  ·cases h
  ·rename_i m1 h1
   have:=ih (addItem_match hm h1) h
   rw [List.append_assoc] at this
   cases i <;> simpa [clausesI,clauseI] using this
def varsM (xs:List TermM):List Int:=(xs.filter (·.isVar)).map (·.num)
def askedM (c:ClauseM):List Int:=varsM c.head.terms++(c.lits.filter (·.2)).flatMap fun l=>varsM l.1.terms
def boundM (c:ClauseM):List Int:=(c.lits.filter (fun l=>!l.2)).flatMap fun l=>varsM l.1.terms
def unsafeM (c:ClauseM):Bool:=(askedM c).any fun n=>!decide (n∈boundM c)
end
end Go.Proofs.YtgjomknpjigkhaaGreatDoor
