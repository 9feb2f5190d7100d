import Derived.Test.YtjoblhlkfmeckaaGreatDoorQ27
set_option maxHeartbeats 2000000
set_option maxRecDepth 8000
set_option linter.unusedVariables false
set_option linter.unusedSimpArgs false
open Go.Proofs.Tryz renaming prog → ly
open Go.RowKit renaming Below → ug
open Go renaming Calls → xi,World → qq
open UInt8 renaming ofNat → km
open Go.Value renaming int → rl,string → pt
open Go.IntKind renaming i64 → tz,u8 → dc
open Go.Ending renaming returned → pd
open Go.Proofs.Tryz Orch
theorem Jqf{p q:Prop}(k:q)(h:Hd q->p:=by
 intro kz
 obtain⟨W1,hW1⟩:∃W1,w.alloc (.cells #[.int .i64 ak,.int .i64 aa,.int .i64 ab,.string asx,.int .i64 av,.bool aw] 42)=W1:=⟨_,rfl⟩
 have hA:W1.heap[w.heap.size]? = some (.cells #[.int .i64 ak,.int .i64 aa,.int .i64 ab,.string asx,.int .i64 av,.bool aw] 42):=by rw [←hW1];exact heap_alloc_new _ _
 have hl:=ltOf hA
 have HW:Hid (Below w.heap.size w W1):=by rw [←hW1];exact Bh _ _
 have tr:∀{W w':World},Below W1.heap.size W1 W->Below W.heap.size W w'->Below W1.heap.size W1 w':=fun h1 h2=>h1.trans (h2.mono h1.size)
 have CL:Hid (∀W,Below W1.heap.size W1 W->W.cell? ⟨w.heap.size,1,none⟩=some (.int .i64 aa)/\W.cell? ⟨w.heap.size,2,none⟩=some (.int .i64 ab)/\W.cell? ⟨w.heap.size,3,none⟩=some (.string asx)/\W.cell? ⟨w.heap.size,4,none⟩=some (.int .i64 av)/\W.cell? ⟨w.heap.size,5,none⟩=some (.bool aw)):=fun W hb=>by
  have:=(hb.block _ hl).trans hA
  exact⟨cellOf (j:=1) this rfl,cellOf (j:=2) this rfl,cellOf (j:=3) this rfl,cellOf (j:=4) this rfl,cellOf (j:=5) this rfl⟩
 have H11:Hid (∀W n,Gy n->Below W1.heap.size W1 W->Calls Tryz.prog 11 #[.int .i64 n] W fun e w'=>e=.returned (.string (b4 n))/\Hid (Below W1.heap.size W1 w')):=fun W n hn hb=>(J8 W n hn).mono fun e w' ⟨h1,h2⟩=>⟨h1,tr hb h2⟩
 have H7:Hid (∀W a b,Gy a->Gy b->Below W1.heap.size W1 W->Calls Tryz.prog 7 #[.int .i64 a,.int .i64 b] W fun e w'=>e=.returned (.string (Ce a b))/\Hid (Below W1.heap.size W1 w')):=fun W a b h1 h2 hb=>(Iy W a b h1 h2).mono fun e w' ⟨h1,h2⟩=>⟨h1,tr hb h2⟩
 have H13:Hid (∀W s,s.size<=1000000->Below W1.heap.size W1 W->Calls Tryz.prog 13 #[.string s] W fun e w'=>e=.returned (.string (Dz s))/\Hid (Below W1.heap.size W1 w')):=fun W s hs hb=>(Jt W s hs).mono fun e w' ⟨h1,h2⟩=>⟨h1,tr hb h2⟩
 have H10:Hid (∀W s,s.size<=1000000->Below W1.heap.size W1 W->Calls Tryz.prog 10 #[.string s] W fun e w'=>e=.returned (.string (Dz s))/\Hid (Below W1.heap.size W1 w')):=fun W s hs hb=>(Lu W s hs).mono fun e w' ⟨h1,h2⟩=>⟨h1,tr hb h2⟩
 have H8:Hid (∀W c n,Gy c->0<n->n<=9223372036854775807->Calls Tryz.prog 8 #[.int .i64 c,.int .i64 n] W fun e w'=>e=.returned (.int .i64 (Io c n))/\w'=W):=fun W c n h1 h2 h3=>Jd W c n h1 h2 h3
 have H25:Hid (∀W s,s.size<=9223372036854775807->Calls Tryz.prog 25 #[.string s,.int .i64 40] W fun e w'=>e=.returned (.string (Ie s))/\w'=W):=fun W s hs=>Qx W s hs
 have Eb:Hid (Below W1.heap.size W1 W1):=Below.refl _ _
 have zp:=Ix aa ab
 have zd:=N9 asx
 have zfp:=Fj (Ce aa ab)
 have zfd:=Fj (Ie asx)
 have z4:=Kp
 obtain⟨v0,v1⟩:=Sv av
 have iv:Gy (I0 av):=⟨Ab,Ab⟩
 revert W1 hW1 hA hl HW tr CL H11 H7 H13 H10 H8 H25 Eb zp zd zfp zfd z4 v0 v1 iv
 exact kz.1):p:=h ⟨k⟩
theorem B3c{p:Prop}(h:p:=by
 clear e1 e2 e3
 go_enter Tryz.func7,Tryz.ntmps7
 go_wp2_with (first|(go_at_call 8;refine(H8.out _ _ _ Af Ad Ad).mono ?_;rintro e1 w1 ⟨rfl,rfl⟩)|(go_at_call 20;refine(H20.out _ _ Af Eb.out).mono ?_;clear Eb;rintro e1 w1 ⟨rfl,Eb⟩))
 all_goals first|(exfalso;rename_i hx;simp only [aT,za,zb] at hx;revert hx;decide)|skip
 all_goals go_ret
 all_goals exact⟨rfl,Eb.out⟩):p:=h
theorem Ygb{p:Prop}(h:p:=by
 rw [e0]
 obtain⟨c1,c2,c3,c4,c5⟩:=CL.out _ Eb.out
 by_cases H9:0<av
 ·have hver:I0 av=Io av 3:=aQ H9
  have iv':Gy (Io av 3):=hver▸iv
  try rw [hver] at p3
  try rw [hver]
  clear hver iv v0 v1 e0 hA tr
  cases aw
  all_goals
   go_enter Tryz.func16,Tryz.ntmps16
   go_wp2_with (first
    | (go_at_call 11;refine(H11.out _ _ Af Eb.out).mono ?_;clear Eb;rintro e1 w1 ⟨rfl,Eb⟩;obtain⟨c1,c2,c3,c4,c5⟩:=CL.out _ Eb.out)
    | (go_at_call 7;refine(H7.out _ _ _ Af Af Eb.out).mono ?_;clear Eb;rintro e1 w1 ⟨rfl,Eb⟩;obtain⟨c1,c2,c3,c4,c5⟩:=CL.out _ Eb.out)
    | (go_at_call 13;refine(H13.out _ _ Af Eb.out).mono ?_;clear Eb;rintro e1 w1 ⟨rfl,Eb⟩;obtain⟨c1,c2,c3,c4,c5⟩:=CL.out _ Eb.out)
    | (go_at_call 10;refine(H10.out _ _ Af Eb.out).mono ?_;clear Eb;rintro e1 w1 ⟨rfl,Eb⟩)
    | (go_at_call 8;refine(H8.out _ _ _ Af Ad Ad).mono ?_;rintro e1 w1 ⟨rfl,rfl⟩)
    | (go_at_call 25;refine(H25.out _ _ Af).mono ?_;rintro e1 w1 ⟨rfl,rfl⟩))
  all_goals first|(exfalso;rename_i hx;simp only [aT,z4,zfp,zfd] at hx;omega)|skip
  all_goals go_ret
  all_goals exact⟨rfl,HW.out.trans (Eb.out.mono Ab)⟩
 ·have hver:I0 av = -1:=aO H9
  have iv':Gy (-1):=⟨Ad,Ad⟩
  try rw [hver] at p3
  try rw [hver]
  clear hver iv v0 v1 e0 hA tr
  cases aw
  all_goals
   go_enter Tryz.func16,Tryz.ntmps16
   go_wp2_with (first
    | (go_at_call 11;refine(H11.out _ _ Af Eb.out).mono ?_;clear Eb;rintro e1 w1 ⟨rfl,Eb⟩;obtain⟨c1,c2,c3,c4,c5⟩:=CL.out _ Eb.out)
    | (go_at_call 7;refine(H7.out _ _ _ Af Af Eb.out).mono ?_;clear Eb;rintro e1 w1 ⟨rfl,Eb⟩;obtain⟨c1,c2,c3,c4,c5⟩:=CL.out _ Eb.out)
    | (go_at_call 13;refine(H13.out _ _ Af Eb.out).mono ?_;clear Eb;rintro e1 w1 ⟨rfl,Eb⟩;obtain⟨c1,c2,c3,c4,c5⟩:=CL.out _ Eb.out)
    | (go_at_call 10;refine(H10.out _ _ Af Eb.out).mono ?_;clear Eb;rintro e1 w1 ⟨rfl,Eb⟩)
    | (go_at_call 8;refine(H8.out _ _ _ Af Ad Ad).mono ?_;rintro e1 w1 ⟨rfl,rfl⟩)
    | (go_at_call 25;refine(H25.out _ _ Af).mono ?_;rintro e1 w1 ⟨rfl,rfl⟩))
  all_goals first|(exfalso;rename_i hx;simp only [aT,z4,zfp,zfd] at hx;omega)|skip
  all_goals go_ret
  all_goals exact⟨rfl,HW.out.trans (Eb.out.mono Ab)⟩):p:=h
namespace Go.Proofs.YtjoblhlkfmeckaaGreatDoor
open Go.RowKit Go.Maps
def Io(c n:Int):Int:=(if c<0 then -(c+1) else c) % n
theorem Nr(c:Int){n:Int}(hn:0<n):0<=Io c n/\Io c n<n:=⟨eF _ Ab,dT _ hn⟩
def Gy(c:Int):Prop:=-9223372036854775808<=c/\c<=9223372036854775807
theorem Jd(w:qq)(c n:Int)(hc:Gy c)(hn:0<n)(hn2:n<=9223372036854775807) :
  xi ly 8 #[rl tz c,rl tz n] w fun e w'=>e=pd (rl tz (Io c n))/\w'=w:=by
 obtain⟨h1,h2⟩:=hc
 go_enter func8,ntmps8
 go_wp2
 ·have e:Int.tmod (-(c+1)) n=Io c n:=by
   unfold Io
   rw [aQ Ab,Int.tmod_eq_emod_of_nonneg Ab]
  refine bodyPost_ret (v:=rl tz (Io c n)) ?_ rfl ⟨rfl,rfl⟩
  simp [results,results8,go_sem]
  rw [←e,Int.neg_tmod]
 ·refine bodyPost_ret (v:=rl tz (Io c n)) ?_ rfl ⟨rfl,rfl⟩
  have e:c % n=Io c n:=by
   unfold Io
   rw [aO Ab]
  simp [results,results8,go_sem,e]
theorem Z3(w:qq)(bs:List UInt8)(cs:Array Value)(hcs:cs=(A0 bs).toArray)(hl:bs.length<=1000):(w.alloc (.cells cs 5)).ownsRow w.heap.size 5 1 (.slice (some ⟨w.heap.size,0,none⟩) bs.length bs.length) bs.length (A0 bs):=by
 refine⟨by simp [A0],.inr ⟨w.heap.size,bs.length,cs,rfl,aA _,heap_alloc_new _ _,aA _,by unfold maxLen;omega,by rw [hcs];simp [A0],by rw [hcs,eZ];exact bO (by simp [A0])⟩⟩
def b4(n:Int):ByteArray:=⟨(be n 4).toArray⟩
theorem Kp(n:Int):(b4 n).size=4:=by
 show(be n 4).toArray.size=4
 rw [aU,be_length]
theorem N6(n:Int):(b4 n).data.toList=be n 4:=rfl
def Dz(s:ByteArray):ByteArray:=b4 s.size++s
theorem Fj(s:ByteArray):(Dz s).size=4+s.size:=by
 unfold Dz
 rw [aT,Kp]
theorem J8(w:qq)(n:Int)(hn:Gy n) :
  xi ly 11 #[rl tz n] w fun e w'=>e=pd (pt (b4 n))/\ug w.heap.size w w':=by
 obtain⟨h1,h2⟩:=hn
 obtain⟨W1,hW1⟩:∃W1,w.alloc (.cells #[rl dc (n / 16777216 % 256),rl dc (n / 65536 % 256),rl dc (n / 256 % 256),rl dc (n % 256)] 5)=W1:=⟨_,rfl⟩
 have hcv:(convert 35 9 (.slice (some ⟨w.heap.size,0,none⟩) 4 4)).run ly W1=.ok (pt (b4 n)) W1:=by
  refine J5 (base:=w.heap.size) (b:=be n 4) ?_
  rw [←hW1]
  have:=Z3 w (be n 4) #[rl dc (n / 16777216 % 256),rl dc (n / 65536 % 256),rl dc (n / 256 % 256),rl dc (n % 256)] (by simp [A0,be];refine⟨?_,?_,?_,?_⟩ <;> omega) (by rw [be_length];omega)
  rw [be_length] at this ⊢
  exact this
 have HB:Hid (ug w.heap.size w W1):=by rw [←hW1];exact Bh _ _
 go_enter func11,ntmps11
 go_wp2
 go_ret
 exact⟨rfl,HB.out⟩
theorem Jt(w:qq)(s:ByteArray)(hs:s.size<=1000000) :
  xi ly 13 #[pt s] w fun e w'=>e=pd (pt (Dz s))/\ug w.heap.size w w':=by
 have HF:=Bc (J8 w s.size ⟨Ab,Ab⟩)
 have hz:=Kp s.size
 have hz2:¬9223372036854775807<(b4 s.size).size+s.size:=Ab
 go_enter func13,ntmps13
 go_wp2_with (go_at_call 11;refine HF.out.mono ?_;rintro e1 w1 ⟨rfl,hb⟩;have HB:=Bc hb;clear hb)
 all_goals first|(exfalso;omega)|skip
 go_ret
 exact⟨rfl,HB.out⟩
theorem Lu(w:qq)(s:ByteArray)(hs:s.size<=1000000) :
  xi ly 10 #[pt s] w fun e w'=>e=pd (pt (Dz s))/\ug w.heap.size w w':=by
 have HF:=Bc (Jt w s hs)
 go_enter func10,ntmps10
 go_wp2_with (go_at_call 13;refine HF.out.mono ?_;rintro e1 w1 ⟨rfl,hb⟩;have HB:=Bc hb;clear hb)
 go_ret
 exact⟨rfl,HB.out⟩
def Oo(i:Int):Int:=i % 2147483648
theorem Zu(w:qq)(i:Int)(h0:0<=i)(h1:i<=9223372036854775807):xi ly 12 #[rl tz i] w fun e w'=>e=pd (rl tz (Oo i))/\w'=w:=by
 go_enter func12,ntmps12
 go_wp2
 go_ret
 exact⟨rfl,rfl⟩
def KU(n:Int):ByteArray:=⟨#[km (97+Io n 20).toNat]⟩
theorem JW(w:qq)(n:Int)(hn:Gy n):xi ly 20 #[rl tz n] w fun e w'=>e=pd (pt (KU n))/\ug w.heap.size w w':=by
 have HP:=Bc (Jd w n 20 hn Ad Ad)
 obtain⟨p0,p1⟩:=Nr n (n:=20) Ad
 unfold KU
 generalize Io n 20=p at HP p0 p1 ⊢
 obtain⟨W1,hW1⟩:∃W1,w.alloc (.cells #[rl dc (97+p)] 5)=W1:=⟨_,rfl⟩
 have hcv:(convert 35 9 (.slice (some ⟨w.heap.size,0,none⟩) 1 1)).run ly W1=.ok (pt ⟨#[km (97+p).toNat]⟩) W1:=by
  refine J5 (base:=w.heap.size) (b:=[km (97+p).toNat]) ?_
  rw [←hW1]
  exact Z3 w [km (97+p).toNat] #[rl dc (97+p)] (by
   simp [A0]
   omega) Ae
 have HB:Hid (ug w.heap.size w W1):=by rw [←hW1];exact Bh _ _
 have hw8:(97+p) % 256=97+p:=Ab
 go_enter func20,ntmps20
 go_wp2_with (go_at_call 8;refine HP.out.mono ?_;rintro e1 w1 ⟨rfl,rfl⟩)
 go_ret
 exact⟨rfl,HB.out⟩
def Ce(a b:Int):ByteArray:=if a<0 then⟨#[47]⟩ else if b<0 then⟨#[47]⟩++KU (Io a 4) else⟨#[47]⟩++KU (Io a 4)++⟨#[47]⟩++KU (Io b 3)
theorem Ny(n:Int):(KU n).size=1:=rfl
theorem Ix(a b:Int):(Ce a b).size<=4:=by
 unfold Ce
 split
 ·decide
 ·split
  ·rw [aT,Ny];decide
  ·rw [aT,aT,aT,Ny,Ny];decide
theorem Iy(w:qq)(a b:Int)(ha:Gy a)(hb:Gy b):xi ly 7 #[rl tz a,rl tz b] w fun e w'=>e=pd (pt (Ce a b))/\ug w.heap.size w w':=by
 have pa:=Nr a (n:=4) Ad
 have pb:=Nr b (n:=3) Ad
 have H8:Hid (∀W c n,Gy c->0<n->n<=9223372036854775807->xi ly 8 #[rl tz c,rl tz n] W fun e w'=>e=pd (rl tz (Io c n))/\w'=W):=fun W c n h1 h2 h3=>Jd W c n h1 h2 h3
 have H20:Hid (∀W n,Gy n->ug w.heap.size w W->xi ly 20 #[rl tz n] W fun e w'=>e=pd (pt (KU n))/\Hid (ug w.heap.size w w')):=fun W n hn hb=>(JW W n hn).mono fun e w' ⟨h1,h2⟩=>⟨h1,hb.trans (h2.mono hb.size)⟩
 have Eb:Hid (ug w.heap.size w w):=Below.refl _ _
 have za:=Ny (Io a 4)
 have zb:=Ny (Io b 3)
 have ia:Gy (Io a 4):=⟨Ab,Ab⟩
 have ib:Gy (Io b 3):=⟨Ab,Ab⟩
 have e1:a<0->Ce a b=⟨#[47]⟩:=fun h1=>by unfold Ce;rw [aQ h1]
 have e2:¬a<0->b<0->Ce a b=⟨#[47]⟩++KU (Io a 4):=fun h1 h2=>by unfold Ce;rw [aO h1,aQ h2]
 have e3:¬a<0->¬b<0->Ce a b=⟨#[47]⟩++KU (Io a 4)++⟨#[47]⟩++KU (Io b 3):=fun h1 h2=>by unfold Ce;rw [aO h1,aO h2]
 by_cases h1:a<0
 ·rw [e1 h1]
  clear e1 e2 e3
  go_enter func7,ntmps7
  go_wp2
  go_ret
  exact⟨rfl,Eb.out⟩
 ·by_cases h2:b<0
  ·rw [e2 h1 h2]
   exact B3c
  ·rw [e3 h1 h2]
   exact B3c
def Ie(s:ByteArray):ByteArray:=if 40<s.size then s.extract 0 40 else s
theorem N9(s:ByteArray):(Ie s).size<=40:=by
 unfold Ie
 split
 ·rw [cQ];omega
 ·omega
theorem Qx(w:qq)(s:ByteArray)(hs:s.size<=9223372036854775807):xi ly 25 #[pt s,rl tz 40] w fun e w'=>e=pd (pt (Ie s))/\w'=w:=by
 by_cases h:40<s.size
 ·have e:Ie s=s.extract 0 40:=aQ h
  rw [e]
  go_enter func25,ntmps25
  go_wp2
  go_ret
  exact⟨rfl,rfl⟩
 ·have e:Ie s=s:=aO h
  rw [e]
  go_enter func25,ntmps25
  go_wp2
  go_ret
  exact⟨rfl,rfl⟩
def I0(v:Int):Int:=if 0<v then Io v 3 else -1
theorem Sv(v:Int):-1<=I0 v/\I0 v<=2:=by
 have:=Nr v (n:=3) Ad
 unfold I0
 split <;> omega
def Pg(kind mk:Int)(p d:ByteArray)(v:Int):ByteArray:=if kind=1 then b4 1++b4 mk++Dz p++Dz d else if kind=2 then b4 2++b4 mk++Dz p++b4 v else b4 3++b4 mk++Dz p++Dz d++b4 v
theorem Ac0(w:qq)(ak aa ab av:Int)(asx:ByteArray)(aw:Bool)(mk:Int)(ha:Gy aa)(hb:Gy ab)(hv:Gy av)(hm:Gy mk)(hs:asx.size<=9223372036854775807) :
  xi ly 16 #[.agg #[rl tz ak,rl tz aa,rl tz ab,pt asx,rl tz av,.bool aw],rl tz 1,rl tz mk] w fun e w'=>e=pd (pt (Dz (Pg 1 mk (Ce aa ab) (Ie asx) (I0 av))))/\ug w.heap.size w w':=by
 refine Jqf ?_;intro W1 hW1 hA hl HW tr CL H11 H7 H13 H10 H8 H25 Eb zp zd zfp zfd z4 v0 v1 iv
 have ik:Gy 1:=⟨Ad,Ad⟩
 have p1:(Ce aa ab).size<=1000000:=Ab
 have p2:(Ie asx).size<=1000000:=Ab
 have e0:Pg 1 mk (Ce aa ab) (Ie asx) (I0 av)=b4 1++b4 mk++Dz (Ce aa ab)++Dz (Ie asx):=rfl
 have p3:(b4 1++b4 mk++Dz (Ce aa ab)++Dz (Ie asx)).size<=1000000:=by simp only [aT,z4,zfp,zfd];omega
 exact Ygb
theorem Ac1(w:qq)(ak aa ab av:Int)(asx:ByteArray)(aw:Bool)(mk:Int)(ha:Gy aa)(hb:Gy ab)(hv:Gy av)(hm:Gy mk)(hs:asx.size<=9223372036854775807) :
  xi ly 16 #[.agg #[rl tz ak,rl tz aa,rl tz ab,pt asx,rl tz av,.bool aw],rl tz 2,rl tz mk] w fun e w'=>e=pd (pt (Dz (Pg 2 mk (Ce aa ab) (Ie asx) (I0 av))))/\ug w.heap.size w w':=by
 refine Jqf ?_;intro W1 hW1 hA hl HW tr CL H11 H7 H13 H10 H8 H25 Eb zp zd zfp zfd z4 v0 v1 iv
 have ik:Gy 2:=⟨Ad,Ad⟩
 have p1:(Ce aa ab).size<=1000000:=Ab
 have p2:(Ie asx).size<=1000000:=Ab
 have e0:Pg 2 mk (Ce aa ab) (Ie asx) (I0 av)=b4 2++b4 mk++Dz (Ce aa ab)++b4 (I0 av):=rfl
 have p3:(b4 2++b4 mk++Dz (Ce aa ab)++b4 (I0 av)).size<=1000000:=by simp only [aT,z4,zfp,zfd];omega
 exact Ygb
theorem Ac2(w:qq)(ak aa ab av:Int)(asx:ByteArray)(aw:Bool)(mk:Int)(ha:Gy aa)(hb:Gy ab)(hv:Gy av)(hm:Gy mk)(hs:asx.size<=9223372036854775807) :
  xi ly 16 #[.agg #[rl tz ak,rl tz aa,rl tz ab,pt asx,rl tz av,.bool aw],rl tz 3,rl tz mk] w fun e w'=>e=pd (pt (Dz (Pg 3 mk (Ce aa ab) (Ie asx) (I0 av))))/\ug w.heap.size w w':=by
 refine Jqf ?_;intro W1 hW1 hA hl HW tr CL H11 H7 H13 H10 H8 H25 Eb zp zd zfp zfd z4 v0 v1 iv
 have ik:Gy 3:=⟨Ad,Ad⟩
 have p1:(Ce aa ab).size<=1000000:=Ab
 have p2:(Ie asx).size<=1000000:=Ab
 have e0:Pg 3 mk (Ce aa ab) (Ie asx) (I0 av)=b4 3++b4 mk++Dz (Ce aa ab)++Dz (Ie asx)++b4 (I0 av):=rfl
 have p3:(b4 3++b4 mk++Dz (Ce aa ab)++Dz (Ie asx)++b4 (I0 av)).size<=1000000:=by simp only [aT,z4,zfp,zfd];omega
 exact Ygb
def TB(num kind:Int)(p:ByteArray):ByteArray:=b4 (-1)++b4 (num / 4294967296)++b4 num++b4 0++b4 kind++Dz p
theorem Zf(w:qq)(num kind:Int)(p:ByteArray)(hn:Gy num)(hk:Gy kind)(hp:p.size<=1000) :
  xi ly 17 #[rl tz num,rl tz kind,pt p] w fun e w'=>e=pd (pt (Dz (TB num kind p)))/\ug w.heap.size w w':=by
 have H11:Hid (∀W n,Gy n->ug w.heap.size w W->xi ly 11 #[rl tz n] W fun e w'=>e=pd (pt (b4 n))/\Hid (ug w.heap.size w w')):=fun W n hn hb=>(J8 W n hn).mono fun e w' ⟨h1,h2⟩=>⟨h1,hb.trans (h2.mono hb.size)⟩
 have H13:Hid (∀W s,s.size<=1000000->ug w.heap.size w W->xi ly 13 #[pt s] W fun e w'=>e=pd (pt (Dz s))/\Hid (ug w.heap.size w w')):=fun W s hs hb=>(Jt W s hs).mono fun e w' ⟨h1,h2⟩=>⟨h1,hb.trans (h2.mono hb.size)⟩
 have H10:Hid (∀W s,s.size<=1000000->ug w.heap.size w W->xi ly 10 #[pt s] W fun e w'=>e=pd (pt (Dz s))/\Hid (ug w.heap.size w w')):=fun W s hs hb=>(Lu W s hs).mono fun e w' ⟨h1,h2⟩=>⟨h1,hb.trans (h2.mono hb.size)⟩
 have Eb:Hid (ug w.heap.size w w):=Below.refl _ _
 have zfp:=Fj p
 have z4:=Kp
 have i1:Gy (-1):=⟨Ad,Ad⟩
 have i0:Gy 0:=⟨Ad,Ad⟩
 obtain⟨n1,n2⟩:=hn
 have hn:Gy num:=⟨n1,n2⟩
 have i2:Gy (num / 4294967296):=⟨Ab,Ab⟩
 have p1:p.size<=1000000:=Ab
 have p3:(b4 (-1)++b4 (num / 4294967296)++b4 num++b4 0++b4 kind++Dz p).size<=1000000:=by simp only [aT,z4,zfp];omega
 unfold TB
 go_enter func17,ntmps17
 go_wp2_with (first
  | (go_at_call 11;refine(H11.out _ _ Af Eb.out).mono ?_;clear Eb;rintro e1 w1 ⟨rfl,Eb⟩)
  | (go_at_call 13;refine(H13.out _ _ Af Eb.out).mono ?_;clear Eb;rintro e1 w1 ⟨rfl,Eb⟩)
  | (go_at_call 10;refine(H10.out _ _ Af Eb.out).mono ?_;clear Eb;rintro e1 w1 ⟨rfl,Eb⟩))
 all_goals first|(exfalso;rename_i hx;simp only [aT,z4,zfp] at hx;omega)|skip
 all_goals go_ret
 all_goals exact⟨rfl,Eb.out⟩
end Go.Proofs.YtjoblhlkfmeckaaGreatDoor
