import Derived.Test.YtjoblhlkfmeckaaGreatDoorBase
import Derived.Test.YtjoblhlkfmeckaaGreatDoorProg
import Derived.WalkKit
import Derived.WalkSpells
import Derived.WalkLawsBesides
import Derived.Handy
import Derived.Outline
import Derived.Laws.BitsAllLaws
import Derived.Deep.Light
import Derived.Lib.Strings
import Derived.Deep.AppendLies
import Derived.Deep.RegionWith
set_option maxHeartbeats 2000000
set_option linter.unusedVariables false
set_option linter.unusedSimpArgs false
open Option renaming none → od,some → lp
open Go renaming World → qq,Value → tj,Calls → xi,heap_alloc_new → tw,TypeId → s8
open Bool renaming false → vp
open ByteArray renaming empty → kq
open Go.Proofs.Tryz renaming prog → ly,ntmps224 → ru,ntmps204 → zo,func224 → dg,func204 → jz
open Go.RowKit renaming Below → ug
open Go.RowKit.Below renaming heap_alloc → q8,refl → fe
open UInt8 renaming ofNat → km,toNat_ofNat' → xh
open Int renaming add_mul_ediv_right → au,mul_ediv_add_emod → bw,pow_succ → ni,pow_pos → sw
open List renaming take_succ_cons → nz
open Nat renaming succ_mul → mf
open Prod renaming fst → xo
open Go.Value renaming int → rl,string → pt,slice → cf,bool → gf
open Go.Obj renaming cells → ye
open Go.IntKind renaming i64 → tz,u8 → dc
open Go.Ending renaming returned → pd
open Go.Proofs.Tryz
theorem Ddr{p q:Prop}(k:q)(h:Hd q->p:=by
 intro kz
 have hpre:pre = []:=by
  have:=hp []
  simp only [V.l,aI,takeE,bU,aL,bH] at this
  exact this.2
 revert hpre
 exact kz.1):p:=h ⟨k⟩
theorem B5t{p q:Prop}(k:q)(h:Hd q->p:=by
 intro kz
 have hX:Orch.uns (l.take 4)<4294967296:=by
  have:=Orch.uns_lt (l.take 4)
  rw [bL] at this
  rw [show min 4 l.length=4 by omega] at this
  exact this
 revert hX
 exact kz.1):p:=h ⟨k⟩
theorem Osl{p q:Prop}(k:q)(h:Hd q->p:=by
 intro kz
 have hown2:Hid (w1.ownsRow base 5 1 v' (xs++(Orch.be n size).take (size - m)).length (A0 (xs++(Orch.be n size).take (size - m)))):=by
  show World.ownsRow _ _ _ _ _ _ _
  rw [HT.out,I2]
  rw [HB.out] at hown'
  simpa [A0] using hown'
 revert hown2
 exact kz.1):p:=h ⟨k⟩
theorem Khb{p q:Prop}(k:q)(h:Hd q->p:=by
 intro kz
 have hl:(xs++(Orch.be n size).take (size - (m+1))).length<=100008:=by
  rw [aH,bL,Orch.be_length];omega
 have HT:Hid (xs++(Orch.be n size).take (size - m)=(xs++(Orch.be n size).take (size - (m+1))) ++ [UInt8.ofNat ((n / 256 ^ m) % 256).toNat]):=by
  show _=_
  rw [FC n m size hj,bM]
 have HB:Hid (IntKind.u64.wrap n / 2 ^ (8 * m) % 256=((UInt8.ofNat ((n / 256 ^ m) % 256).toNat).toNat:Int)):=FD n m Ab
 revert hl HT HB
 exact kz.1):p:=h ⟨k⟩
theorem Irk{p:Prop}(h:p:=by
 cases h with
 | nil=>exact⟨_,_,rfl⟩
 | row ps g cap=>exact⟨_,_,by rw [bN]⟩):p:=h
theorem Vup{p:Prop}(h:p:=by
 go_wp2
 go_roundw
 case rel=>exact⟨m,Ab,by go_num,hown2,B9⟩
 case measure=>first|(simp [intOf];done)|(simp [intOf];omega)):p:=h
theorem Hz8{p:Prop}(h:p:=by
 go_wp2
 go_ret
 have e:(Orch.be n size).take (size - 0)=Orch.be n size:=by rw [bO (by rw [Orch.be_length];omega)]
 have h1:=ho.out
 rw [e] at h1
 exact⟨_,rfl,h1,hbw.out⟩):p:=h
theorem Idg{p:Prop}(h:p:=by
 induction h with
 | nil a c=>exact .nil a c
 | row ps g cap h0 Ea hS hc hr ih=>
  exact .row ps g cap h0 Ea (hSS g hS) (fun j u hu=>by rw [World.cell?_of_block (w:=w) (a:=⟨g,j,none⟩) (hw g hS)];exact hc j u hu) (fun p hp=>ih p hp)):p:=h
theorem Jwi{p:Prop}(h:p:=by
 generalize t.ps.length=k at *
 generalize hk:p.ps.length=m at *
 clear hk
 go_enter Tryz.func201,Tryz.ntmps201
 go_wp2
 exact bodyPost_ret (v:=D7 p.l (.slice xa m xc)) (by simp [results,Tryz.results201,go_sem]) rfl ⟨_,rfl,HX.out,Ck _ _ _⟩):p:=h
theorem Jna{p:Prop}(h:p:=by
 generalize Orch.uns l=X at *
 generalize Orch.sgn l=S at *
 go_enter Tryz.func142,Tryz.ntmps142
 go_wp2_with (go_at_call 140;refine cU.mono ?_;rintro e w' ⟨rfl,rfl⟩)
 go_ret
 refine⟨Mt ?_,rfl⟩
 rw [HG.out]
 unfold wrap64
 split <;> omega):p:=h
theorem Nbr{p:Prop}(h:p:=by
 rcases h.2 with⟨rfl,h0⟩|⟨g,cap,cur,rfl,hb,hg,hn,_,hs,ht⟩
 ·rw [bP.1 h0];exact .nil _ _
 ·by_cases h0:ps = []
  ·subst h0
   exact .nil _ _
  ·refine .row ps g cap h0 hn (hS g rfl) (fun j u hu=>?_) hr
   have:=h.cells (g:=g) rfl j u hu
   rwa [Addr.add_lit,aM] at this):p:=h
theorem Woo{p:Prop}(h:p:=by
 clear hR
 go_enter Tryz.func200,Tryz.ntmps200
 go_wp2
 all_goals go_ret
 all_goals refine⟨Fg ?_,Nc _ _ _ _⟩
 all_goals rw [←HR.out]
 all_goals clear HR
 all_goals go_light
 all_goals try simp only [toList_nil] at *
 all_goals (rw [dS];simp only [bD,decide_eq_true_eq,beq_iff_eq,aV];first|omega|(rw [false_iff];omega))):p:=h
namespace Orch
structure Lt where
 sign:UInt8
 shape:Nat
 size:Nat
 least:Int
 most:Int
 text:Bool
 fin:UInt8
instance:Inhabited Lt:=⟨⟨0,0,0,0,0,vp,0⟩⟩
def letters:List Lt:=
 [⟨63,0,1,0,1,vp,0⟩,⟨52,0,4,-2147483648,2147483647,vp,0⟩,⟨56,0,8,-9223372036854775808,9223372036854775807,vp,0⟩,
  ⟨98,1,0,0,0,vp,0⟩,⟨116,1,0,0,0,true,0⟩,⟨91,2,0,0,0,vp,93⟩,⟨40,3,0,0,0,vp,41⟩]
def find(c:UInt8):Option Lt:=letters.find? fun l=>l.sign == c
inductive Ty where
 | mk (l:Lt) (ps:List Ty)
instance:Inhabited Ty:=⟨.mk default []⟩
def Ty.l:Ty->Lt|.mk l _=>l
def Ty.ps:Ty->List Ty|.mk _ ps=>ps
inductive V where
 | mk (n:Int) (s:ByteArray) (l:List V)
def V.n:V->Int|.mk n _ _=>n
def V.s:V->ByteArray|.mk _ s _=>s
def V.l:V->List V|.mk _ _ l=>l
def part(t:Ty)(i:Nat):Ty:=if t.l.shape=2 then t.ps.getD 0 default else t.ps.getD i default
def parts(f:List UInt8->Option (Ty×List UInt8))(l:Lt):Nat->List UInt8->List Ty->Option (List Ty×List UInt8)
 | 0,_,_=>od
 | _+1,[],_=>od
 | n+1,c :: r,acc=>
  if c=l.fin then(if acc.length=0∨l.shape=2/\1<acc.length then od else lp (acc,r))
  else match f (c :: r) with
   | none=>od
   | some (t,rest)=>parts f l n rest (acc ++ [t])
def ptype:Nat->List UInt8->Option (Ty×List UInt8)
 | 0,_=>od
 | _+1,[]=>od
 | k+1,c :: r=>match find c with
  | none=>od
  | some l=>if l.fin=0 then lp (.mk l [],r) else match parts (ptype k) l (r.length+1) r [] with
   | none=>od
   | some (ps,rest)=>lp (.mk l ps,rest)
def parse(s:List UInt8):Option Ty:=
 if 64<s.length then od else match ptype 9 s with
  | some (t,[])=>lp t
  | _=>od
def be(n:Int):Nat->List UInt8
 | 0=>[]
 | k+1=>km ((n / 256 ^ k) % 256).toNat :: be n k
def uns(l:List UInt8):Nat:=l.foldl (fun x c=>x * 256+c.toNat) 0
def sgn(l:List UInt8):Int:=if 256 ^ l.length<=2 * uns l then(uns l:Int) - 256 ^ l.length else uns l
theorem be_length(n:Int):∀k,(be n k).length=k
 | 0=>rfl
 | k+1=>by simp [be,be_length n k]
theorem KJ(l:List UInt8):∀x,l.foldl (fun x c=>x * 256+c.toNat) x=x * 256 ^ l.length+uns l:=by
 induction l with
 | nil=>intro x;simp [uns]
 | cons c r ih=>
  intro x
  simp only [eR,aK,uns]
  rw [ih,ih (0 * 256+c.toNat),Nat.pow_succ,eH,aM,Nat.add_mul,Nat.mul_assoc,Nat.mul_comm (256 ^ r.length) 256,eM]
theorem Va(c:UInt8)(r:List UInt8):uns (c :: r)=c.toNat * 256 ^ r.length+uns r:=by
 show List.foldl _ _ _=_
 rw [eR,KJ,eH,aM]
theorem uns_lt(l:List UInt8):uns l<256 ^ l.length:=by
 induction l with
 | nil=>simp [uns]
 | cons c r ih=>
  rw [Va,aK,Nat.pow_succ]
  have h:c.toNat<256:=c.toNat_lt
  have:c.toNat * 256 ^ r.length<=255 * 256 ^ r.length:=Nat.mul_le_mul_right _ Ab
  omega
theorem Tg(n m:Int):∀k,be (n+m * 256 ^ k) k=be n k
 | 0=>rfl
 | k+1=>by
  have hp:(256:Int) ^ k≠0:=by
   have:(0:Int)<256 ^ k:=sw Ab
   omega
  have e:n+m * 256 ^ (k+1)=n+(m * 256) * 256 ^ k:=by rw [ni,Int.mul_comm (256 ^ k) 256,Int.mul_assoc]
  unfold be
  rw [e,Tg n (m * 256) k,au _ _ hp]
  congr 3
  omega
theorem BY(l:List UInt8):be (uns l) l.length=l:=by
 induction l with
 | nil=>rfl
 | cons c r ih=>
  have Cg:=uns_lt r
  have hc:c.toNat<256:=c.toNat_lt
  have hp:(0:Int)<256 ^ r.length:=sw Ab
  have hlt':((uns r:Nat):Int)<256 ^ r.length:=by
   have h2:=Int.ofNat_lt.2 Cg
   rw [eU] at h2
   exact h2
  have e:((uns (c :: r):Nat):Int)=(uns r:Int)+(c.toNat:Int) * 256 ^ r.length:=by
   rw [Va,Int.natCast_add,Int.natCast_mul,eU,Int.add_comm]
   rfl
  rw [aK,be,e,Tg,ih,au _ _ Ab,Int.ediv_eq_zero_of_lt Ab hlt']
  have:((0+(c.toNat:Int)) % 256).toNat=c.toNat:=Ab
  rw [this]
  simp
theorem WT(l:List UInt8):be (sgn l) l.length=l:=by
 unfold sgn
 split
 ·have h:=Tg (uns l) (-1) l.length
  rw [BY,show((uns l:Nat):Int) + -1 * 256 ^ l.length=(uns l:Int) - 256 ^ l.length by omega] at h
  exact h
 ·exact BY l
section
variable (valid:ByteArray->Bool)
def fits(t:Ty)(v:V):Bool:=
 match t.l.shape with
 | 0=>decide (t.l.least<=v.n) && decide (v.n<=t.l.most) && decide (v.s.size=0) && decide (v.l.length=0)
 | 1=>decide (v.n=0) && (decide (v.s.size<=200) && (!t.l.text || valid v.s)) && decide (v.l.length=0)
 | 2=>decide (v.n=0) && decide (v.s.size=0) && decide (v.l.length<=32)
 | _=>decide (v.n=0) && decide (v.s.size=0) && decide (v.l.length=t.ps.length)
def head(t:Ty)(v:V):List UInt8:=
 match t.l.shape with
 | 0=>be v.n t.l.size
 | 1=>be v.s.size 4++v.s.data.toList
 | 2=>be v.l.length 4
 | _=>[]
def putE(f:List UInt8->Ty->V->Option (List UInt8))(t:Ty):List V->Nat->List UInt8->Option (List UInt8)
 | [],_,out=>lp out
 | e :: r,i,out=>match f out (part t i) e with
  | none=>od
  | some out'=>putE f t r (i+1) out'
def put:Nat->List UInt8->Ty->V->Option (List UInt8)
 | 0,_,_,_=>od
 | k+1,out,t,v=>
  if fits valid t v then
   match putE (put k) t v.l 0 (out++head t v) with
   | none=>od
   | some o=>if o.length<=1000 then lp o else od
  else od
def count(b:List UInt8)(most:Nat):Option (Nat×List UInt8):=
 if b.length<4 then od else if most<uns (b.take 4) then od else lp (uns (b.take 4),b.drop 4)
def takeE(f:Ty->List UInt8->Option (V×List UInt8))(t:Ty):Nat->Nat->List UInt8->Option (List V×List UInt8)
 | 0,_,b=>lp ([],b)
 | m+1,i,b=>match f (part t i) b with
  | none=>od
  | some (e,rest)=>match takeE f t m (i+1) rest with
   | none=>od
   | some (es,r)=>lp (e :: es,r)
def bytesV(l:List UInt8):V:=.mk 0 ⟨l.toArray⟩ []
def listV(r:List V×List UInt8):V×List UInt8:=(.mk 0 kq r.1,r.2)
def take:Nat->Ty->List UInt8->Option (V×List UInt8)
 | 0,_,_=>od
 | k+1,t,b=>
  match t.l.shape with
  | 0=>if b.length<t.l.size then od else
    if fits valid t (.mk (sgn (b.take t.l.size)) kq []) then lp (.mk (sgn (b.take t.l.size)) kq [],b.drop t.l.size) else od
  | 1=>match count b 200 with
   | none=>od
   | some (n,rest)=>if rest.length<n then od else
    if fits valid t (bytesV (rest.take n)) then lp (bytesV (rest.take n),rest.drop n) else od
  | 2=>match count b 32 with
   | none=>od
   | some (n,rest)=>(takeE (take k) t n 0 rest).map listV
  | _=>(takeE (take k) t t.ps.length 0 b).map listV
def encode(s:List UInt8)(v:V):Except Nat (List UInt8):=
 match parse s with
 | none=>.error 1
 | some t=>match put valid 9 [] t v with
  | none=>.error 2
  | some b=>.ok b
def decode(s:List UInt8)(b:List UInt8):Except Nat V:=
 match parse s with
 | none=>.error 1
 | some t=>if 1000<b.length then .error 3 else match take valid 9 t b with
  | some (v,[])=>.ok v
  | _=>.error 3
theorem Ql(f:Ty->List UInt8->Option (V×List UInt8))(t:Ty):∀m i b es r,takeE f t m i b=lp (es,r)->es.length=m:=by
 intro m
 induction m with
 | zero=>intro i b es r h;simp [takeE] at h;simp [←h.1]
 | succ m ih=>
  intro i b es r h
  unfold takeE at h
  split at h
  ·cases h
  ·rename_i e rest hf
   split at h
   ·cases h
   ·rename_i Fi r' he
    simp only [aL,bH] at h
    rw [←h.1,aK,ih _ _ _ _ he]
theorem Uv(k:Nat)(t:Ty)(ih:∀t b v rest,take valid k t b=lp (v,rest)->∃pre,b=pre++rest/\∀out,out.length+pre.length<=1000->put valid k out t v=lp (out++pre)) :
  ∀m i b es rest,takeE (take valid k) t m i b=lp (es,rest)->∃pre,b=pre++rest/\∀out,out.length+pre.length<=1000->putE (put valid k) t es i out=lp (out++pre):=by
 intro m
 induction m with
 | zero=>intro i b es rest h;simp [takeE] at h;obtain⟨rfl,rfl⟩:=h;exact⟨[],rfl,fun out _=>by simp [putE]⟩
 | succ m ihm=>
  intro i b es rest h
  unfold takeE at h
  split at h
  ·cases h
  ·rename_i e r1 hf
   split at h
   ·cases h
   ·rename_i Fi r' he
    simp only [aL,bH] at h
    obtain⟨p1,B9,hp1⟩:=ih _ _ _ _ hf
    obtain⟨p2,Fs,hp2⟩:=ihm _ _ _ _ he
    refine⟨p1++p2,by rw [B9,Fs,bM,h.2],fun out hl=>?_⟩
    rw [aH] at hl
    rw [←h.1,putE,hp1 out Ab]
    simp only
    rw [hp2 _ (by rw [aH];omega),bM]
theorem count_some{b:List UInt8}{most n:Nat}{rest:List UInt8}(h:count b most=lp (n,rest)):n<=most/\be n 4++rest=b/\rest.length+4=b.length:=by
 unfold count at h
 split at h
 ·cases h
 ·split at h
  ·cases h
  ·rename_i h4 hm
   simp only [aL,bH] at h
   obtain⟨rfl,rfl⟩:=h
   have hl:(b.take 4).length=4:=by rw [bL];omega
   have:=BY (b.take 4)
   rw [hl] at this
   exact⟨Ab,by rw [this,cZ],by rw [cT];omega⟩
theorem put_take:∀k t b v rest,take valid k t b=lp (v,rest)->∃pre,b=pre++rest/\∀out,out.length+pre.length<=1000->put valid k out t v=lp (out++pre):=by
 intro k
 induction k with
 | zero=>intro t b v rest h;simp [take] at h
 | succ k ih=>
  intro t b v rest h
  unfold take at h
  split at h
  ·rename_i hsh
   split at h
   ·cases h
   ·split at h
    ·rename_i hlen hfit
     simp only [aL,bH] at h
     obtain⟨rfl,rfl⟩:=h
     refine⟨b.take t.l.size,by rw [cZ],fun out hl=>?_⟩
     have hl2:(b.take t.l.size).length=t.l.size:=by rw [bL];omega
     have hb:=WT (b.take t.l.size)
     rw [hl2] at hb hl
     unfold put
     rw [aQ hfit]
     simp only [head,hsh,V.n,V.l,putE,hb]
     rw [aQ (by rw [aH,hl2];exact hl)]
    ·cases h
  ·rename_i hsh
   split at h
   ·cases h
   ·rename_i n r1 hc
    split at h
    ·cases h
    ·split at h
     ·rename_i hlen hfit
      simp only [aL,bH] at h
      obtain⟨rfl,rfl⟩:=h
      obtain⟨hn,hb,hr⟩:=count_some hc
      have hl2:(r1.take n).length=n:=by rw [bL];omega
      refine⟨be n 4++r1.take n,by rw [bM,cZ,hb],fun out hl=>?_⟩
      have hs:(bytesV (r1.take n)).s.size=n:=by simp [bytesV,V.s,ByteArray.size,hl2]
      unfold put
      rw [aQ hfit]
      simp only [head,hsh]
      have hd:(bytesV (r1.take n)).s.data.toList=r1.take n:=by simp [bytesV,V.s]
      have hL:(bytesV (r1.take n)).l = []:=rfl
      rw [hs,hd,hL,putE]
      simp only
      rw [aQ (by rw [aH];exact hl)]
     ·cases h
  ·rename_i hsh
   split at h
   ·cases h
   ·rename_i n r1 hc
    obtain⟨⟨es,r⟩,he,hm⟩:=aJ.1 h
    simp only [listV,bH] at hm
    obtain⟨rfl,rfl⟩:=hm
    obtain⟨hn,hb,hr⟩:=count_some hc
    obtain⟨p,hp,Ih⟩:=Uv valid k t ih _ _ _ _ _ he
    have hlen:=Ql _ _ _ _ _ _ _ he
    refine⟨be n 4++p,by rw [bM,←hp,hb],fun out hl=>?_⟩
    have hb4:=be_length n 4
    have hfit:fits valid t (.mk 0 kq es)=true:=by
     simp [fits,hsh,V.n,V.s,V.l,hlen,hn]
    unfold put
    rw [aQ hfit]
    simp only [head,hsh,V.l]
    rw [hlen,Ih _ (by rw [aH] at hl ⊢;omega)]
    simp only
    rw [aQ (by simp only [aH] at hl ⊢;omega),bM]
  ·rename_i h0 h1 h2
   obtain⟨⟨es,r⟩,he,hm⟩:=aJ.1 h
   simp only [listV,bH] at hm
   obtain⟨rfl,rfl⟩:=hm
   obtain⟨p,hp,Ih⟩:=Uv valid k t ih _ _ _ _ _ he
   have hlen:=Ql _ _ _ _ _ _ _ he
   refine⟨p,hp,fun out hl=>?_⟩
   have hfit:fits valid t (.mk 0 kq es)=true:=by
    simp [fits,V.n,V.s,V.l,hlen]
   have hhead:head t (.mk 0 kq es) = []:=by
    simp [head]
   unfold put
   rw [aQ hfit,hhead]
   simp only [V.l,bU]
   rw [Ih _ hl]
   simp only
   rw [aQ (by rw [aH];exact hl)]
end
theorem Z8(k:Nat):(0:Int)<256 ^ k:=sw Ab
theorem EP(n:Int):∀k,((uns (be n k):Nat):Int)=n % 256 ^ k
 | 0=>by simp [be,uns,Int.emod_one]
 | k+1=>by
  have hp:=Z8 k
  have ih:=EP n k
  have h0:0<=(n / 256 ^ k) % 256:=eF _ Ab
  have h1:(n / 256 ^ k) % 256<256:=dT _ Ab
  have hb:(km ((n / 256 ^ k) % 256).toNat).toNat=((n / 256 ^ k) % 256).toNat:=by
   simp only [xh]
   omega
  unfold be
  rw [Va,be_length,hb,Int.natCast_add,ih,Int.natCast_mul,eU,Int.toNat_of_nonneg h0]
  show(n / 256 ^ k) % 256 * 256 ^ k+n % 256 ^ k=_
  have e1:=bw n (256 ^ k)
  have e2:=bw (n / 256 ^ k) 256
  have r0:=eF n (show(256:Int) ^ k≠0 by omega)
  have r1:=dT n hp
  generalize hq:n / 256 ^ k=q at *
  generalize hr:n % 256 ^ k=r at *
  generalize hq2:q / 256=q2 at *
  generalize hq3:q % 256=q3 at *
  have en:n=(q3 * 256 ^ k+r)+256 ^ (k+1) * q2:=by
   rw [←e1,←e2,ni,Int.mul_add,Int.mul_comm q3,Int.mul_assoc]
   omega
  have Cg:q3 * 256 ^ k+r<256 ^ (k+1):=by
   have:q3 * 256 ^ k<=255 * 256 ^ k:=Int.mul_le_mul_of_nonneg_right Ab Ab
   rw [ni]
   omega
  have hge:0<=q3 * 256 ^ k+r:=Int.add_nonneg (Int.mul_nonneg h0 Ab) r0
  rw [en,Int.add_mul_emod_self_left,dW hge Cg]
theorem uns_be4(n:Nat)(h:n<=200):uns (be n 4)=n:=by
 have:=EP n 4
 rw [dW Ab Ab] at this
 omega
theorem sgn_be(n:Int)(k:Nat)(h0:-(256 ^ k)<=2 * n)(h1:2 * n<256 ^ k):sgn (be n k)=n:=by
 have hp:=Z8 k
 have hu:=EP n k
 have hnat:((256 ^ k:Nat):Int)=256 ^ k:=by rw [eU];rfl
 unfold sgn
 rw [be_length]
 rcases(by omega:n<0∨0<=n) with hn|hn
 ·have e:n % 256 ^ k=n+256 ^ k:=by
   rw [←Int.add_emod_right,dW Ab Ab]
  rw [e] at hu
  rw [aQ Ab,hu]
  omega
 ·rw [dW hn Ab] at hu
  rw [aO Ab,hu]
def Aas(l:Lt):Prop:=l.shape=0->-(256 ^ l.size:Int)<=2 * l.least/\2 * l.most<256 ^ l.size
def Vg:Nat->Ty->Prop
 | 0,_=>True
 | k+1,t=>Aas t.l/\∀j,Vg k (part t j)
theorem Xv(j:Nat):part default j=default:=by
 unfold part
 rfl
theorem Mx:∀k,Vg k default
 | 0=>trivial
 | k+1=>⟨fun _=>Ad,fun j=>by rw [Xv];exact Mx k⟩
theorem Wr{c:UInt8}{l:Lt}(h:find c=lp l):Aas l:=by
 have hm:l∈letters:=List.mem_of_find?_eq_some h
 simp only [letters,bI,cF,or_false] at hm
 rcases hm with rfl|rfl|rfl|rfl|rfl|rfl|rfl <;> intro hs <;> first|(constructor <;> decide)|cases hs
theorem JI(Q:Ty->Prop){f:List UInt8->Option (Ty×List UInt8)}(hf:∀s t r,f s=lp (t,r)->Q t)(l:Lt) :
  ∀n s acc ps r,(∀t∈acc,Q t)->parts f l n s acc=lp (ps,r)->∀t∈ps,Q t:=by
 intro n
 induction n with
 | zero=>intro s acc ps r _ h;cases s <;> simp [parts] at h
 | succ n ih=>
  intro s acc ps r ha h
  cases s with
  | nil=>simp [parts] at h
  | cons c s=>
   unfold parts at h
   split at h
   ·split at h
    ·cases h
    ·simp only [aL,bH] at h
     rw [←h.1];exact ha
   ·split at h
    ·cases h
    ·rename_i t rest ht
     refine ih _ _ _ _ ?_ h
     intro t' ht'
     rcases cH.1 ht' with h1|h1
     ·exact ha _ h1
     ·simp only [dH] at h1
      subst h1
      exact hf _ _ _ ht
theorem Z6(Q:Ty->Prop)(hd:Q default){l:Lt}{ps:List Ty}(h:∀t∈ps,Q t)(j:Nat):Q (part (.mk l ps) j):=by
 have g:∀i,Q (ps.getD i default):=fun i=>by
  rw [cR]
  cases hi:ps[i]? with
  | none=>exact hd
  | some t=>exact h t (cD hi)
 unfold part
 split
 ·exact g 0
 ·exact g j
theorem DN:∀k s t r,ptype k s=lp (t,r)->∀m,Vg m t:=by
 intro k
 induction k with
 | zero=>intro s t r h;cases s <;> simp [ptype] at h
 | succ k ih=>
  intro s t r h m
  cases s with
  | nil=>simp [ptype] at h
  | cons c s=>
   unfold ptype at h
   split at h
   ·cases h
   ·rename_i l hl
    cases m with
    | zero=>trivial
    | succ m=>
     split at h
     ·simp only [aL,bH] at h
      rw [←h.1]
      exact⟨Wr hl,Z6 (Vg m) (Mx m) (fun _ h=>by cases h)⟩
     ·split at h
      ·cases h
      ·rename_i ps rest hps
       simp only [aL,bH] at h
       rw [←h.1]
       exact⟨Wr hl,Z6 (Vg m) (Mx m) (JI (Vg m) (fun s t r h=>ih s t r h m) l _ _ _ _ _ (fun _ h=>by cases h) hps)⟩
theorem parse_well{s:List UInt8}{t:Ty}(h:parse s=lp t)(m:Nat):Vg m t:=by
 unfold parse at h
 split at h
 ·cases h
 ·split at h
  ·rename_i t' ht
   injection h with h
   subst h
   exact DN _ _ _ _ ht m
  ·cases h
section
variable (valid:ByteArray->Bool)
theorem EI(k:Nat)(t:Ty)(hw:∀j,Vg k (part t j))(ih:∀t v out o,Vg k t->put valid k out t v=lp o->∃pre,o=out++pre/\∀rest,take valid k t (pre++rest)=lp (v,rest)) :
  ∀es i out o,putE (put valid k) t es i out=lp o->∃pre,o=out++pre/\∀rest,takeE (take valid k) t es.length i (pre++rest)=lp (es,rest):=by
 intro es
 induction es with
 | nil=>intro i out o h;simp only [putE,aL] at h;subst h;exact⟨[],Ae,fun rest=>by simp [takeE]⟩
 | cons e es ihe=>
  intro i out o h
  unfold putE at h
  split at h
  ·cases h
  ·rename_i o' ho
   obtain⟨p1,rfl,h1⟩:=ih _ _ _ _ (hw i) ho
   obtain⟨p2,rfl,h2⟩:=ihe _ _ _ h
   refine⟨p1++p2,Ae,fun rest=>?_⟩
   rw [aK,takeE,bM,h1]
   simp only
   rw [h2]
theorem Lh{s:ByteArray}(h:s.size=0):s=kq:=by
 cases s with
 | mk d=>
  have:d.size=0:=h
  have e:d=#[]:=Array.size_eq_zero_iff.1 this
  subst e
  rfl
theorem Y8(n:Nat)(most:Nat)(h:n<=most)(hm:most<=200)(rest:List UInt8):count (be n 4++rest) most=lp (n,rest):=by
 have hl:=be_length (n:Int) 4
 unfold count
 rw [aO (by simp [hl]),dE Ab,bO Ab,uns_be4 n Ab,aO Ab,
  dV Ab,dU Ab,aP]
theorem take_put:∀k t v out o,Vg k t->put valid k out t v=lp o->∃pre,o=out++pre/\∀rest,take valid k t (pre++rest)=lp (v,rest):=by
 intro k
 induction k with
 | zero=>intro t v out o _ h;simp [put] at h
 | succ k ih=>
  intro t v out o hw h
  unfold put at h
  split at h
  ·rename_i hf
   split at h
   ·cases h
   ·rename_i o' ho
    split at h
    ·injection h with h
     subst h
     obtain⟨pre,rfl,hp⟩:=EI valid k t hw.2 ih _ _ _ _ ho
     refine⟨head t v++pre,Ae,fun rest=>?_⟩
     obtain⟨n,s,l⟩:=v
     unfold take
     unfold fits at hf
     split
     ·rename_i hs
      rw [hs] at hf
      simp only [V.n,V.s,V.l,bD] at hf
      obtain⟨⟨⟨h0,h1⟩,h2⟩,h3⟩:=hf
      replace h0:=of_decide_eq_true h0
      replace h1:=of_decide_eq_true h1
      replace h2:=of_decide_eq_true h2
      replace h3:=of_decide_eq_true h3
      have hs':=Lh h2
      have hl:l = []:=bP.1 h3
      subst hs' hl
      refine Ddr ?_;intro hpre
      subst hpre
      have hb:=be_length n t.l.size
      have hhead:head t (.mk n kq [])=be n t.l.size:=by unfold head;rw [hs];rfl
      obtain⟨w0,w1⟩:=hw.1 hs
      rw [hhead,bU,aO (by simp [hb]),dE Ab,bO Ab,sgn_be n _ Ab Ab,
       dV Ab,dU Ab,aP,aQ]
      unfold fits
      rw [hs]
      simp only [V.n,V.s,V.l,bD]
      exact⟨⟨⟨decide_eq_true h0,decide_eq_true h1⟩,decide_eq_true h2⟩,decide_eq_true h3⟩
     ·rename_i hs
      rw [hs] at hf
      have hf0:=hf
      simp only [V.n,V.s,V.l,bD] at hf
      obtain⟨⟨h0,h1,_⟩,h3⟩:=hf
      replace h0:=of_decide_eq_true h0
      replace h1:=of_decide_eq_true h1
      replace h3:=of_decide_eq_true h3
      have hl:l = []:=bP.1 h3
      subst h0 hl
      refine Ddr ?_;intro hpre
      subst hpre
      have hhead:head t (.mk 0 s [])=be s.size 4++s.data.toList:=by unfold head;rw [hs];rfl
      have Di:s.data.toList.length=s.size:=rfl
      rw [hhead,bU,bM,Y8 _ _ h1 (aA _)]
      simp only
      rw [aO (by simp [Di]),dE Ab,bO Ab,dV Ab,dU Ab,aP,aQ]
      ·rfl
      ·unfold fits
       rw [hs]
       exact hf0
     ·rename_i hs
      rw [hs] at hf
      simp only [V.n,V.s,V.l,bD] at hf
      obtain⟨⟨h0,h2⟩,h3⟩:=hf
      replace h0:=of_decide_eq_true h0
      replace h2:=of_decide_eq_true h2
      replace h3:=of_decide_eq_true h3
      have hs':=Lh h2
      subst h0 hs'
      have hhead:head t (.mk 0 kq l)=be l.length 4:=by unfold head;rw [hs];rfl
      rw [hhead,bM,Y8 _ _ h3 Ab]
      simp only
      have:=hp rest
      simp only [V.l] at this
      rw [this]
      rfl
     ·rename_i h0' h1' h2'
      have hhead:head t (.mk n s l) = []:=by unfold head;split <;> simp_all
      split at hf
      ·exact absurd Af h0'
      ·exact absurd Af h1'
      ·exact absurd Af h2'
      ·simp only [V.n,V.s,V.l,bD] at hf
       obtain⟨⟨h0,h2⟩,h3⟩:=hf
       replace h0:=of_decide_eq_true h0
       replace h2:=of_decide_eq_true h2
       replace h3:=of_decide_eq_true h3
       have hs':=Lh h2
       subst h0 hs'
       have:=hp rest
       simp only [V.l] at this
       rw [hhead,aP,←h3,this]
       rfl
    ·cases h
  ·cases h
theorem DO:∀k t v out o,put valid k out t v=lp o->o.length<=1000:=by
 intro k t v out o h
 cases k with
 | zero=>simp [put] at h
 | succ k=>
  unfold put at h
  split at h
  ·split at h
   ·cases h
   ·split at h
    ·injection h with h
     subst h
     assumption
    ·cases h
  ·cases h
theorem round(s b:List UInt8)(v:V)(h:encode valid s v=.ok b) :
  decode valid s b=.ok v/\(∀a c,b=a ++ [c]->decode valid s a=.error 3)/\∀c,decode valid s (b ++ [c])=.error 3:=by
 unfold encode at h
 split at h
 ·cases h
 ·rename_i t ht
  split at h
  ·cases h
  ·rename_i b' hb
   injection h with h
   subst h
   obtain⟨pre,he,hp⟩:=take_put valid 9 t v [] b' (parse_well ht 9) hb
   have hl:=DO valid _ _ _ _ _ hb
   rw [aP] at he
   subst he
   have h0:=hp []
   rw [bU] at h0
   refine⟨?_,?_,?_⟩
   ·unfold decode
    rw [ht]
    simp only
    rw [aO Ab,h0]
   ·intro a c hac
    unfold decode
    rw [ht]
    simp only
    split
    ·rfl
    ·split
     ·rename_i v' hv
      obtain⟨p',ha,Ih⟩:=put_take valid 9 t a v' [] hv
      rw [bU] at ha
      subst ha
      have h2:=Ih [] (by rw [hac] at hl;simp at hl;simp;omega)
      obtain⟨p2,he2,hp2⟩:=take_put valid 9 t v' [] _ (parse_well ht 9) h2
      simp only [aP] at he2
      subst he2
      have h3:=hp2 [c]
      rw [←hac,h0] at h3
      simp at h3
     ·rfl
   ·intro c
    unfold decode
    rw [ht]
    simp only
    split
    ·rfl
    ·rw [hp [c]]
end
section
variable (valid:ByteArray->Bool)
variable {valid}
end
structure Node where
 path:ByteArray
 data:ByteArray
 note:ByteArray
 made:Int
 changed:Int
 version:Int
instance:Inhabited Node:=⟨⟨kq,kq,kq,0,0,0⟩⟩
def sv(s:ByteArray):V:=.mk 0 s []
def nv(n:Int):V:=.mk n kq []
end Orch
namespace Go.Proofs.YtjoblhlkfmeckaaGreatDoor
open Go.RowKit
def Bytes(w:qq)(b off:Nat)(l:List UInt8):Prop:=∀i (h:i<l.length),w.cell? ⟨b,off+i,od⟩=lp (rl dc l[i].toNat)
theorem UB(X c:Nat)(hX:X<72057594037927936)(hc:c<256):bits .or .u64 ((X:Int) * 256) (c:Int)=((X * 256+c:Nat):Int):=by
 have e:((X:Int) * 256)=((X * 256:Nat):Int):=Ab
 rw [e,u64_or_nat _ _ Ab Ab]
 have:=Nat.shiftLeft_add_eq_or_of_lt (i:=8) (b:=c) Ab X
 rw [Nat.shiftLeft_eq] at this
 rw [←this]
theorem QM(l:List UInt8)(k:Nat)(h:k<l.length):Orch.uns (l.take (k+1))=Orch.uns (l.take k) * 256+l[k].toNat:=by
 rw [dQ h]
 unfold Orch.uns
 rw [List.foldl_append]
 rfl
theorem Mt{k:IntKind}{a b:Int}(h:a=b):Ending.returned (rl k a)=pd (rl k b):=by rw [h]
theorem UY{k:IntKind}{a b:Int}(h:a=b):Value.int k a=rl k b:=by rw [h]
theorem Ha(w:qq)(b off n cap:Nat)(l:List UInt8)(hn:l.length=n)(hl:n<=8)(hb:Bytes w b off l) :
  xi ly 140 #[cf (lp ⟨b,off,od⟩) n cap] w fun e w'=>e=pd (rl .u64 (Orch.uns l))/\w'=w:=by
 subst hn
 go_enter func140,ntmps140
 go_wp2
 go_loop [3,8] (fun x i=>∃k:Nat,k<=l.length/\i=rl tz k/\x=rl .u64 (Orch.uns (l.take k))) (fun _ i=>l.length - (intOf i).toNat)
 case atStart=>exact⟨0,cC _,rfl,rfl⟩
 case round=>
  obtain⟨k,hk,rfl,rfl⟩:=hrel
  by_cases Cg:k<l.length
  ·have hc:=hb k Cg
   have HS:Hid (Orch.uns (l.take (k+1))=Orch.uns (l.take k) * 256+l[k].toNat):=QM l k Cg
   have H2:Orch.uns (l.take k)<256 ^ 7:=by
    have h1:=Orch.uns_lt (l.take k)
    have h2:(l.take k).length<=7:=by rw [bL];omega
    exact aB h1 (Nat.pow_le_pow_right Ab h2)
   have h7:(Orch.uns (l.take k):Int)<72057594037927936:=by
    have:(256:Nat) ^ 7=72057594037927936:=Ad
    omega
   have hc8:l[k].toNat<256:=eY _
   clear H2
   generalize Orch.uns (l.take k)=X at *
   go_wp2
   go_round
   case rel=>exact⟨k+1,Ab,by go_num,UY (by rw [UB X _ Ab hc8,HS.out])⟩
   case measure=>first|(simp [intOf];done)|(simp [intOf];omega)
  ·go_wp2
   go_ret
   exact⟨Mt (by rw [bO Ab]),rfl⟩
theorem EG(l:List UInt8)(n:Nat)(hn:l.length=n):Orch.sgn l=if 256 ^ n<=2 * Orch.uns l then(Orch.uns l:Int) - 256 ^ n else Orch.uns l:=by
 subst hn;rfl
theorem PT(w:qq)(b off cap:Nat)(l:List UInt8)(hn:l.length=1)(hb:Bytes w b off l) :
  xi ly 142 #[cf (lp ⟨b,off,od⟩) 1 cap] w fun e w'=>e=pd (rl tz (Orch.sgn l))/\w'=w:=by
 have cU:=Ha w b off 1 cap l hn Ab hb
 have Cg:(Orch.uns l:Int)<256:=by
  have:=Orch.uns_lt l
  rw [hn] at this
  omega
 have HG:Hid (Orch.sgn l=if 256 ^ 1<=2 * Orch.uns l then(Orch.uns l:Int) - 256 ^ 1 else(Orch.uns l:Int)):=EG l 1 hn
 exact Jna
theorem AK(w:qq)(b off cap:Nat)(l:List UInt8)(hn:l.length=4)(hb:Bytes w b off l) :
  xi ly 142 #[cf (lp ⟨b,off,od⟩) 4 cap] w fun e w'=>e=pd (rl tz (Orch.sgn l))/\w'=w:=by
 have cU:=Ha w b off 4 cap l hn Ab hb
 have Cg:(Orch.uns l:Int)<4294967296:=by
  have:=Orch.uns_lt l
  rw [hn] at this
  omega
 have HG:Hid (Orch.sgn l=if 256 ^ 4<=2 * Orch.uns l then(Orch.uns l:Int) - 256 ^ 4 else(Orch.uns l:Int)):=EG l 4 hn
 exact Jna
theorem PU(w:qq)(b off cap:Nat)(l:List UInt8)(hn:l.length=8)(hb:Bytes w b off l) :
  xi ly 142 #[cf (lp ⟨b,off,od⟩) 8 cap] w fun e w'=>e=pd (rl tz (Orch.sgn l))/\w'=w:=by
 have cU:=Ha w b off 8 cap l hn Ab hb
 have HL:Hid (Orch.uns l<18446744073709551616):=by
  have:=Orch.uns_lt l
  rw [hn] at this
  exact this
 have HG:Hid (Orch.sgn l=if 256 ^ 8<=2 * Orch.uns l then(Orch.uns l:Int) - 256 ^ 8 else(Orch.uns l:Int)):=EG l 8 hn
 generalize Orch.uns l=X at *
 generalize Orch.sgn l=S at *
 go_enter func142,ntmps142
 go_wp2_with (go_at_call 140;refine cU.mono ?_;rintro e w' ⟨rfl,rfl⟩)
 go_ret
 refine⟨Mt ?_,rfl⟩
 rw [HG.out]
 have h1:=HL.out
 have e:IntKind.u64.wrap (X:Int)=(X:Int):=by
  simp [IntKind.wrap,IntKind.bits,IntKind.signed];omega
 rw [e]
 unfold wrap64
 split <;> omega
def A0(l:List UInt8):List tj:=l.map fun c=>rl dc c.toNat
theorem I2(a b:List UInt8):A0 (a++b)=A0 a++A0 b:=cI
theorem FC(n:Int)(m:Nat):∀size,m+1<=size->(Orch.be n size).take (size - m)=(Orch.be n size).take (size - (m+1)) ++ [km ((n / 256 ^ m) % 256).toNat]:=by
 intro size
 induction size with
 | zero=>intro h;omega
 | succ k ih=>
  intro h
  unfold Orch.be
  by_cases e:m=k
  ·subst e
   rw [show m+1 - m=1 by omega,show m+1 - (m+1)=0 by omega]
   rfl
  ·rw [show k+1 - m=(k - m)+1 by omega,show k+1 - (m+1)=(k - (m+1))+1 by omega,nz,nz,ih Ab]
   rfl
theorem FD(n:Int)(m:Nat)(hm:m<=7):IntKind.u64.wrap n / 2 ^ (8 * m) % 256=((km ((n / 256 ^ m) % 256).toNat).toNat:Int):=by
 have e:IntKind.u64.wrap n=n % 18446744073709551616:=by simp [IntKind.wrap,IntKind.bits,IntKind.signed]
 have f:∀q:Int,((km (q % 256).toNat).toNat:Int)=q % 256:=fun q=>by
  rw [xh]
  omega
 rw [e,f]
 match m,hm with
 | 0,_=>simp
 | 1,_=>omega
 | 2,_=>omega
 | 3,_=>omega
 | 4,_=>omega
 | 5,_=>omega
 | 6,_=>omega
 | 7,_=>omega
theorem Tryz.info5:(prog.info? 5).map (fun i=>(i.zero,i.size,i.bytes))=lp (lp (rl dc 0),1,1):=Aa
theorem BV(w:qq)(base:Nat)(v:tj)(n:Int)(size:Nat)(xs:List UInt8)(hs:size<=8)(Db:w.ownsRow base 5 1 v xs.length (A0 xs))(Dx:base<=w.heap.size)(hx:xs.length<=100000) :
  xi ly 131 #[v,rl tz n,rl tz size] w fun e w'=>∃v',e=pd v'/\w'.ownsRow base 5 1 v' (xs++Orch.be n size).length (A0 (xs++Orch.be n size))/\ug base w w':=by
 obtain⟨i0,hi,hz0,hz1,hz2⟩:=info_parts Tryz.info5
 go_enter func131,ntmps131
 go_wp2
 go_loopw [0,7] (fun u i wr=>∃j:Nat,j<=size/\i=rl tz ((j:Int) - 1)/\Hid (wr.ownsRow base 5 1 u (xs++(Orch.be n size).take (size - j)).length (A0 (xs++(Orch.be n size).take (size - j))))/\Hid (ug base w wr))
  (fun _ i _=>(intOf i+1).toNat)
 case atStart=>exact⟨size,aA _,rfl,by show World.ownsRow _ _ _ _ _ _ _;rw [Nat.sub_self];simpa using Db,fe _ _⟩
 case round=>
  obtain⟨j,hj,rfl,ho,hbw⟩:=hrel
  cases j with
  | zero=>
   exact Hz8
  | succ m=>
   rw [show((m+1:Nat):Int) - 1=(m:Int) by omega]
   refine Khb ?_;intro hl HT HB
   generalize xs++(Orch.be n size).take (size - (m+1))=L at *
   go_wp2_with (at_builtin;refine wpList_append_own _ rfl _ _ 35 rfl base 5 i0 (rl dc 0) 1 1 underlying35 hi hz0 hz1 hz2 rfl Ad _ _ _ rfl (ho.out.alloc _) ⟨wr.heap.size,0,od⟩ 1 1 [_] rfl rfl (cell_one_new _ _ _) ?c2 ?c3 ?c4 ?c5 ?_)
   case c2=>intro u hu;simp at hu;subst hu;rfl
   case c3=>unfold maxLen;omega
   case c4=>omega
   case c5=>have:=hbw.out.size;simp;omega
   intro v' w1 hown' hgrow _
   have B9:Hid (ug base w w1):=(hbw.out.alloc (by have:=hbw.out.size;omega) _).grown hgrow (by have:=hbw.out.size;simp;omega) (fun k hk=>(ho.out.lt k hk).1)
   refine Osl ?_;intro hown2
   clear hown' hgrow
   exact Vup
#print axioms BV
abbrev YI(sg sh sz lo hi:Int)(tx:Bool)(fn:Int):tj:=.agg #[rl dc sg,rl tz sh,rl tz sz,rl tz lo,rl tz hi,gf tx,rl dc fn]
abbrev Gl(sg sh sz lo hi:Int)(tx:Bool)(fn:Int)(ps:tj):tj:=.agg #[rl dc sg,rl tz sh,rl tz sz,rl tz lo,rl tz hi,gf tx,rl dc fn,ps]
abbrev vv(n:Int)(s:ByteArray)(l:tj):tj:=.agg #[rl tz n,pt s,l]
def XW:Nat:=8
structure Jk(valid:ByteArray->Bool)(Tabs:qq->Prop):Prop where
 gives:∀(s:ByteArray) (w:qq),Tabs w->s.size<=200->xi ly 208 #[pt s] w fun e w'=>e=pd (gf (valid s))/\ug w.heap.size w w'
 kept:∀{B:Nat} {w w':qq},XW<=B->ug B w w'->Tabs w->Tabs w'
 size:∀{w:qq},Tabs w->XW<=w.heap.size
theorem Fg{a b:Bool}(h:a=b):Ending.returned (gf a)=pd (gf b):=by rw [h]
theorem toList_nil(s:ByteArray):s.toList = []↔s.size=0:=by
 rw [Lib.toList_data,Lib.size_eq];exact bP.symm
theorem Bh(w:qq)(o:Obj):ug w.heap.size w (w.alloc o):=(fe _ _).alloc (aA _) o
theorem Ck(w:qq)(o o':Obj):ug w.heap.size w ((w.alloc o).alloc o'):=(Bh w o).alloc Ae o'
theorem Nc(w:qq)(o o' o'':Obj):ug w.heap.size w (((w.alloc o).alloc o').alloc o''):=(Ck w o o').alloc Ag o''
section
variable {valid:ByteArray->Bool} {Tabs:qq->Prop}
theorem Vl(U:Jk valid Tabs)(w:qq)(hT:Tabs w)(sg sh sz lo hi:Int)(tx:Bool)(fn:Int)(s:ByteArray) :
  xi ly 224 #[YI sg sh sz lo hi tx fn,pt s] w fun e w'=>
   e=pd (gf (decide (s.size<=200) && (!tx || valid s)))/\ug w.heap.size w w':=by
 by_cases h2:s.size<=200
 ·have h2z:(s.size:Int)<=200:=Ab
  rw [decide_eq_true h2,Bool.true_and]
  cases tx
  ·clear hT
   go_enter dg,ru
   go_wp2
   go_ret
   exact⟨Fg Ae,Bh _ _⟩
  ·have hT1:Tabs (w.alloc (ye #[rl dc sg,rl tz sh,rl tz sz,rl tz lo,rl tz hi,gf true,rl dc fn] 193)):=U.kept (U.size hT) (Bh _ _) hT
   have cV:=U.gives s _ hT1 h2
   generalize valid s=V at *
   clear hT hT1
   go_enter dg,ru
   go_wp2_with (go_at_call 208;refine cV.mono ?_;rintro e w' ⟨rfl,hb⟩)
   go_ret
   exact⟨Fg Ae,(Bh _ _).trans (hb.mono Ae)⟩
 ·have h2z:¬(s.size:Int)<=200:=Ab
  rw [decide_eq_false h2,eJ]
  clear hT
  go_enter dg,ru
  go_wp2
  go_ret
  exact⟨Fg rfl,Bh _ _⟩
theorem XS(w:qq)(sg sz lo hi:Int)(tx:Bool)(fn:Int)(pa la:Option Addr)(pn pc ln lc:Nat)(n:Int)(s:ByteArray) :
  xi ly 200 #[Gl sg 0 sz lo hi tx fn (cf pa pn pc),vv n s (cf la ln lc)] w fun e w'=>
   e=pd (gf (decide (lo<=n) && decide (n<=hi) && decide (s.size=0) && decide (ln=0)))/\ug w.heap.size w w':=by
 obtain⟨R,hR⟩:∃R,(decide (lo<=n) && decide (n<=hi) && decide (s.size=0) && decide (ln=0))=R:=⟨_,rfl⟩
 rw [hR]
 have HR:Hid ((decide (lo<=n) && decide (n<=hi) && decide (s.size=0) && decide (ln=0))=R):=hR
 exact Woo
theorem XU(w:qq)(sg sz lo hi:Int)(tx:Bool)(fn:Int)(pa la:Option Addr)(pn pc ln lc:Nat)(n:Int)(s:ByteArray) :
  xi ly 200 #[Gl sg 2 sz lo hi tx fn (cf pa pn pc),vv n s (cf la ln lc)] w fun e w'=>
   e=pd (gf (decide (n=0) && decide (s.size=0) && decide (ln<=32)))/\ug w.heap.size w w':=by
 obtain⟨R,hR⟩:∃R,(decide (n=0) && decide (s.size=0) && decide (ln<=32))=R:=⟨_,rfl⟩
 rw [hR]
 have HR:Hid ((decide (n=0) && decide (s.size=0) && decide (ln<=32))=R):=hR
 exact Woo
theorem XV(w:qq)(sg sz lo hi:Int)(tx:Bool)(fn:Int)(pa la:Option Addr)(pn pc ln lc:Nat)(n:Int)(s:ByteArray) :
  xi ly 200 #[Gl sg 3 sz lo hi tx fn (cf pa pn pc),vv n s (cf la ln lc)] w fun e w'=>
   e=pd (gf (decide (n=0) && decide (s.size=0) && decide (ln=pn)))/\ug w.heap.size w w':=by
 obtain⟨R,hR⟩:∃R,(decide (n=0) && decide (s.size=0) && decide (ln=pn))=R:=⟨_,rfl⟩
 rw [hR]
 have HR:Hid ((decide (n=0) && decide (s.size=0) && decide (ln=pn))=R):=hR
 exact Woo
theorem XT(U:Jk valid Tabs)(w:qq)(hT:Tabs w)(sg sz lo hi:Int)(tx:Bool)(fn:Int)(pa la:Option Addr)(pn pc ln lc:Nat)(n:Int)(s:ByteArray) :
  xi ly 200 #[Gl sg 1 sz lo hi tx fn (cf pa pn pc),vv n s (cf la ln lc)] w fun e w'=>
   e=pd (gf (decide (n=0) && (decide (s.size<=200) && (!tx || valid s)) && decide (ln=0)))/\ug w.heap.size w w':=by
 have HB:Hid (∀w',Tabs w'->xi ly 224 #[YI sg 1 sz lo hi tx fn,pt s] w' fun e Hx=>e=pd (gf (decide (s.size<=200) && (!tx || valid s)))/\ug w'.heap.size w' Hx):=fun w' h=>Vl U w' h sg 1 sz lo hi tx fn s
 generalize (decide (s.size<=200) && (!tx || valid s))=FB at *
 by_cases hn:n=0
 ·subst hn
  have HT:Hid (Tabs (((w.alloc (ye #[rl dc sg,rl tz 1,rl tz sz,rl tz lo,rl tz hi,gf tx,rl dc fn,cf pa pn pc] 196)).alloc (ye #[rl tz 0,pt s,cf la ln lc] 164)).alloc (ye #[rl dc sg,rl tz 1,rl tz sz,rl tz lo,rl tz hi,gf tx,rl dc fn] 193))):=U.kept (U.size hT) (Nc _ _ _ _) hT
  clear hT
  go_enter func200,ntmps200
  go_wp2_with (go_at_call 224;refine(HB.out _ ?hT).mono ?_)
  case hT=>exact HT.out
  rintro e w' ⟨rfl,hb⟩
  have hbb:ug w.heap.size w w':=(Nc _ _ _ _).trans (hb.mono Ag)
  have hc2:w'.cell? ⟨w.heap.size+1,2,od⟩=lp (cf la ln lc):=(hb.cell (p:=⟨w.heap.size+1,2,od⟩) Ae).trans (by rw [World.cell?_alloc_past _ _ _ Ae,World.cell?_alloc_at _ _ _ _ Ae];rfl)
  clear hb HT HB
  cases FB
  ·go_wp2
   go_ret
   exact⟨Fg Ae,hbb⟩
  ·go_wp2
   go_ret
   refine⟨Fg ?_,hbb⟩
   rw [dS];simp
 ·have hn':(n == 0)=vp:=by simpa using hn
  rw [decide_eq_false hn,eJ,eJ]
  clear hT HB hn
  go_enter func200,ntmps200
  go_wp2
  go_ret
  exact⟨Fg rfl,Nc _ _ _ _⟩
end
open Orch
theorem P3{α β:Type}(f:α->List β)(k:Nat)(hf:∀x,(f x).length=k):∀(L:List α) (i j:Nat),j<k->(L.flatMap f)[i * k+j]? = (L[i]?).bind fun x=>(f x)[j]?:=by
 intro L
 induction L with
 | nil=>intro i j _;simp
 | cons x r ih=>
  intro i j hj
  rw [List.flatMap_cons]
  cases i with
  | zero=>
   rw [eH,aM,eE (by rw [hf];exact hj)]
   simp
  | succ i=>
   rw [eB (by rw [hf,mf];omega),hf,show(i+1) * k+j - k=i * k+j by rw [mf];omega,ih i j hj]
   simp
theorem NT{α β:Type}(f:α->List β)(k:Nat)(hf:∀x,(f x).length=k):∀(L:List α),(L.flatMap f).length=L.length * k:=by
 intro L
 induction L with
 | nil=>simp
 | cons x r ih=>rw [List.flatMap_cons,aH,hf,ih,aK,mf];omega
abbrev CY(l:Lt):tj:=YI l.sign.toNat l.shape l.size l.least l.most l.text l.fin.toNat
abbrev D7(l:Lt)(ps:tj):tj:=Gl l.sign.toNat l.shape l.size l.least l.most l.text l.fin.toNat ps
abbrev AU(v:V)(l:tj):tj:=vv v.n v.s l
def Mc(p:Ty×tj):List tj:=[rl dc p.1.l.sign.toNat,rl tz p.1.l.shape,rl tz p.1.l.size,rl tz p.1.l.least,rl tz p.1.l.most,gf p.1.l.text,rl dc p.1.l.fin.toNat,p.2]
def Fe(p:V×tj):List tj:=[rl tz p.1.n,pt p.1.s,p.2]
inductive El(w:qq)(S:Nat->Prop):List Ty->tj->Prop
 | nil (a:Option Addr) (c:Nat):El w S [] (cf a 0 c)
 | row (ps:List (Ty×tj)) (g cap:Nat) (h0:ps≠[]) (Ea:ps.length<=cap) (hS:S g)
   (hc:∀j u,(ps.flatMap Mc)[j]? = lp u->w.cell? ⟨g,j,od⟩=lp u)
   (hr:∀p,p∈ps->El w S p.1.ps p.2):El w S (ps.map xo) (cf (lp ⟨g,0,od⟩) ps.length cap)
inductive Er(w:qq)(S:Nat->Prop):List V->tj->Prop
 | nil (a:Option Addr) (c:Nat):Er w S [] (cf a 0 c)
 | row (ps:List (V×tj)) (g cap:Nat) (h0:ps≠[]) (Ea:ps.length<=cap) (hS:S g)
   (hc:∀j u,(ps.flatMap Fe)[j]? = lp u->w.cell? ⟨g,j,od⟩=lp u)
   (hr:∀p,p∈ps->Er w S p.1.l p.2):Er w S (ps.map xo) (cf (lp ⟨g,0,od⟩) ps.length cap)
theorem El.congr{w w':qq}{S S':Nat->Prop}(hSS:∀b,S b->S' b)(hw:∀b,S b->w'.heap[b]? = w.heap[b]?){ts:List Ty}{v:tj}(h:El w S ts v):El w' S' ts v:=by
 exact Idg
theorem Er.congr{w w':qq}{S S':Nat->Prop}(hSS:∀b,S b->S' b)(hw:∀b,S b->w'.heap[b]? = w.heap[b]?){ts:List V}{v:tj}(h:Er w S ts v):Er w' S' ts v:=by
 exact Idg
theorem El.shape{w:qq}{S:Nat->Prop}{ts:List Ty}{v:tj}(h:El w S ts v):∃a c,v=cf a ts.length c:=by
 exact Irk
theorem Er.shape{w:qq}{S:Nat->Prop}{ts:List V}{v:tj}(h:Er w S ts v):∃a c,v=cf a ts.length c:=by
 exact Irk
theorem Wo(p:Ty×tj):(Mc p).length=8:=rfl
theorem Wp(p:V×tj):(Fe p).length=3:=rfl
theorem El.at{w:qq}{S:Nat->Prop}{ts:List Ty}{v:tj}(h:El w S ts v)(i:Nat)(hi:i<ts.length) :
  ∃g cap x,v=cf (lp ⟨g,0,od⟩) ts.length cap/\ts.length<=cap/\S g/\El w S ts[i].ps x/\∀j u,(Mc (ts[i],x))[j]? = lp u->w.cell? ⟨g,i * 8+j,od⟩=lp u:=by
 cases h with
 | nil=>simp at hi
 | row ps g cap h0 Ea hS hc hr=>
  have hi':i<ps.length:=by simpa using hi
  refine⟨g,cap,ps[i].2,by rw [bN],by rw [bN];exact Ea,hS,?_,fun j u hu=>?_⟩
  ·rw [eA];exact hr _ (dF hi')
  ·refine hc _ u ?_
   have hj:j<8:=by
    have:=(aW.1 hu).1
    rwa [Wo] at this
   rw [P3 Mc 8 Wo ps i j hj,aR hi',cW]
   rw [eA] at hu
   exact hu
theorem El.of_own{w:qq}{S:Nat->Prop}{base:Nat}{v:tj}{ps:List (Ty×tj)}(h:w.ownsRow base 196 8 v ps.length (ps.flatMap Mc))(hr:∀p,p∈ps->El w S p.1.ps p.2)(hS:∀g,v.ownBlock=lp g->S g):El w S (ps.map xo) v:=by
 exact Nbr
theorem Er.of_own{w:qq}{S:Nat->Prop}{base:Nat}{v:tj}{ps:List (V×tj)}(h:w.ownsRow base 164 3 v ps.length (ps.flatMap Fe))(hr:∀p,p∈ps->Er w S p.1.l p.2)(hS:∀g,v.ownBlock=lp g->S g):Er w S (ps.map xo) v:=by
 exact Nbr
theorem OY(w:qq)(S:Nat->Prop)(t:Ty)(psv:tj)(h:El w S t.ps psv)(hS:∀b,S b->b<w.heap.size)(i:Int)(hsh:t.l.shape=2)(h0:0<t.ps.length) :
  xi ly 201 #[D7 t.l psv,rl tz i] w fun e w'=>∃x,e=pd (D7 (t.ps[0]).l x)/\El w S (t.ps[0]).ps x/\ug w.heap.size w w':=by
 obtain⟨g,cap,x,rfl,Ea,hg,hx,hc⟩:=h.at 0 h0
 obtain⟨xa,xc,rfl⟩:=hx.shape
 have hgl:=hS g hg
 have c0:=hc 0 _ rfl
 have c1:=hc 1 _ rfl
 have c2:=hc 2 _ rfl
 have c3:=hc 3 _ rfl
 have c4:=hc 4 _ rfl
 have c5:=hc 5 _ rfl
 have c6:=hc 6 _ rfl
 have c7:=hc 7 _ rfl
 generalize t.ps[0]=p at *
 have HX:Hid (El w S p.ps (cf xa p.ps.length xc)):=hx
 clear hc hx hS h hg
 simp only [D7,Gl,hsh]
 have h0z:(0:Int)<(t.ps.length:Int):=Ab
 exact Jwi
theorem OX(w:qq)(S:Nat->Prop)(t:Ty)(psv:tj)(h:El w S t.ps psv)(hS:∀b,S b->b<w.heap.size)(i:Nat)(hsh:t.l.shape=3)(h0:i<t.ps.length)(_hb:t.ps.length<=1000) :
  xi ly 201 #[D7 t.l psv,rl tz i] w fun e w'=>∃x,e=pd (D7 (t.ps[i]).l x)/\El w S (t.ps[i]).ps x/\ug w.heap.size w w':=by
 obtain⟨g,cap,x,rfl,Ea,hg,hx,hc⟩:=h.at i h0
 obtain⟨xa,xc,rfl⟩:=hx.shape
 have hgl:=hS g hg
 have c0:w.cell? ⟨g,i * 8,od⟩=_:=hc 0 _ rfl
 have c1:=hc 1 _ rfl
 have c2:=hc 2 _ rfl
 have c3:=hc 3 _ rfl
 have c4:=hc 4 _ rfl
 have c5:=hc 5 _ rfl
 have c6:=hc 6 _ rfl
 have c7:=hc 7 _ rfl
 generalize t.ps[i]=p at *
 have HX:Hid (El w S p.ps (cf xa p.ps.length xc)):=hx
 clear hc hx hS h hg
 simp only [D7,Gl,hsh]
 have h0z:(i:Int)<(t.ps.length:Int):=Ab
 exact Jwi
def Vp:Nat->Ty->Prop
 | 0,_=>False
 | k+1,t=>t.l∈letters/\(t.l.shape=2->t.ps.length=1)/\t.ps.length<=64/\∀p,p∈t.ps->Vp k p
theorem Lj{l:Lt}(h:l∈letters):l.shape=0∨l.shape=1∨l.shape=2∨l.shape=3:=by
 simp only [letters,bI,cF,or_false] at h
 rcases h with rfl|rfl|rfl|rfl|rfl|rfl|rfl <;> simp
theorem P8{l:Lt}(h:l∈letters)(h0:l.shape=0):l.size=1∨l.size=4∨l.size=8:=by
 simp only [letters,bI,cF,or_false] at h
 rcases h with rfl|rfl|rfl|rfl|rfl|rfl|rfl <;> simp at h0 ⊢
theorem I3{α:Type}(l:List α)(i:Nat)(d:α)(h:i<l.length):l.getD i d=l[i]:=by
 rw [cR,aR h];rfl
theorem Xw{k:Nat}{t:Ty}(h:Vp (k+1) t)(i:Nat)(h23:t.l.shape=2∨t.l.shape=3/\i<t.ps.length):Vp k (Orch.part t i):=by
 obtain⟨_,h2,_,hp⟩:=h
 unfold Orch.part
 rcases h23 with h'|⟨h',hi⟩
 ·have:=h2 h'
  rw [aQ h',I3 _ _ _ Ab]
  exact hp _ (dF _)
 ·rw [aO Ab,I3 _ _ _ hi]
  exact hp _ (dF _)
theorem Uu(w:qq)(S:Nat->Prop){k:Nat}(t:Ty)(E6:Vp (k+1) t)(psv:tj)(h:El w S t.ps psv)(hS:∀b,S b->b<w.heap.size)(i:Nat)(h23:t.l.shape=2∨t.l.shape=3/\i<t.ps.length) :
  xi ly 201 #[D7 t.l psv,rl tz i] w fun e w'=>∃x,e=pd (D7 (Orch.part t i).l x)/\El w S (Orch.part t i).ps x/\ug w.heap.size w w':=by
 obtain⟨_,h2,hb,_⟩:=E6
 unfold Orch.part
 rcases h23 with h'|⟨h',hi⟩
 ·have:=h2 h'
  rw [aQ h',I3 _ _ _ Ab]
  exact OY w S t psv h hS i h' Ab
 ·rw [aO Ab,I3 _ _ _ hi]
  exact OX w S t psv h hS i h' hi Ab
def Gz(w:qq)(v:tj)(l:List UInt8):Prop:=∃b off cap,v=cf (lp ⟨b,off,od⟩) l.length cap/\l.length<=cap/\b<w.heap.size/\Bytes w b off l
theorem Gz.below{B:Nat}{w w':qq}{v:tj}{l:List UInt8}(h:Gz w v l)(hb:ug B w w')(hB:w.heap.size<=B):Gz w' v l:=by
 obtain⟨b,off,cap,e,hc,Cg,hby⟩:=h
 exact⟨b,off,cap,e,hc,aB Cg hb.size,fun i hi=>(hb.cell (p:=⟨b,off+i,od⟩) (aB Cg hB)).trans (hby i hi)⟩
theorem Bytes.drop{w:qq}{b off:Nat}{l:List UInt8}(h:Bytes w b off l)(n:Nat):Bytes w b (off+n) (l.drop n):=fun i hi=>by
 rw [cT] at hi
 rw [List.getElem_drop,eM]
 exact h (n+i) Ab
theorem Bytes.take{w:qq}{b off:Nat}{l:List UInt8}(h:Bytes w b off l)(n:Nat):Bytes w b off (l.take n):=fun i hi=>by
 rw [bL] at hi
 rw [List.getElem_take]
 exact h i Ab
theorem Gz.tail1{w:qq}{b off cap:Nat}{l:List UInt8}(Ea:l.length<=cap)(Cg:b<w.heap.size)(n:Nat)(hn:n<=l.length)(he:cap=n) :
  Gz w (cf (lp ⟨b,off,od⟩) (l.length - n) 0) (l.drop n):=by
 have h0:l.drop n = []:=List.drop_eq_nil_of_le Ab
 rw [h0,show l.length - n=0 by omega]
 exact⟨b,off,0,rfl,aA _,Cg,fun i hi=>by simp at hi⟩
theorem Gz.tail2{w:qq}{b off cap:Nat}{l:List UInt8}(Ea:l.length<=cap)(hb:Bytes w b off l)(Cg:b<w.heap.size)(n:Nat) :
  Gz w (cf (lp ⟨b,off+n,od⟩) (l.length - n) (cap - n)) (l.drop n):=
 ⟨b,off+n,cap - n,by rw [cT],by rw [cT];omega,Cg,hb.drop n⟩
theorem Gz.tail{w:qq}{b off cap:Nat}{l:List UInt8}(Ea:l.length<=cap)(hb:Bytes w b off l)(Cg:b<w.heap.size)(n:Nat)(hn:n<=l.length) :
  Gz w (if cap=n then cf (lp ⟨b,off,od⟩) (l.length - n) 0 else cf (lp ⟨b,off+n,od⟩) (l.length - n) (cap - n)) (l.drop n):=by
 split
 ·exact Gz.tail1 Ea Cg n hn ‹_›
 ·exact Gz.tail2 Ea hb Cg n
def I7(bv:tj)(l:List UInt8)(rv:tj)(rest:List UInt8):Prop:=∀W,Gz W bv l->Gz W rv rest
theorem I7.refl(bv:tj)(l:List UInt8):I7 bv l bv l:=fun _ h=>h
theorem I7.trans{a b c:tj}{l m n:List UInt8}(h:I7 a l b m)(k:I7 b m c n):I7 a l c n:=fun W hW=>k W (h W hW)
theorem I7.cut(b off cap:Nat)(l:List UInt8)(n:Nat)(hn:n<=l.length) :
  I7 (cf (lp ⟨b,off,od⟩) l.length cap) l (if cap=n then cf (lp ⟨b,off,od⟩) (l.length - n) 0 else cf (lp ⟨b,off+n,od⟩) (l.length - n) (cap - n)) (l.drop n):=by
 intro W h
 obtain⟨b',off',cap',e,hc,Cg,hb⟩:=h
 simp only [Value.slice.injEq,aL,Addr.mk.injEq,and_true,true_and] at e
 obtain⟨⟨rfl,rfl⟩,rfl⟩:=e
 exact Gz.tail hc hb Cg n hn
theorem Du{B:Nat}(w:qq):ug B w w.drew:=(fe B w).drew
def Ng(bv:tj)(l:List UInt8)(most:Nat)(e:Ending):Prop:=
 match Orch.count l most with
 | none=>e=pd (.tuple #[rl tz 0,cf od 0 0,gf vp])
 | some (n,rest)=>∃v,e=pd (.tuple #[rl tz n,v,gf true])/\I7 bv l v rest
theorem O6(w:qq)(bv:tj)(l:List UInt8)(hl:l.length<=1000)(hbv:Gz w bv l)(most:Nat)(hm:most<=1000) :
  xi ly 204 #[bv,rl tz most] w fun e w'=>Ng bv l most e/\ug w.heap.size w w':=by
 obtain⟨b,off,cap,rfl,Ea,Cg,hb⟩:=hbv
 unfold Ng Orch.count
 by_cases h4:l.length<4
 ·simp only [aQ h4]
  have h4z:(l.length:Int)<4:=Ab
  generalize l.length=k at *
  clear hb
  go_enter jz,zo
  go_wp2
  go_ret3
  exact⟨rfl,fe _ _⟩
 ·simp only [aO h4]
  have cU:=Ha w b off 4 cap (l.take 4) (by rw [bL];omega) Ab (hb.take 4)
  have h4z:¬(l.length:Int)<4:=Ab
  have HT1:Hid (cap=4->I7 (cf (lp ⟨b,off,od⟩) l.length 4) l (cf (lp ⟨b,off,od⟩) (l.length - 4) 0) (l.drop 4)):=fun he=>by
   have:=I7.cut b off cap l 4 Ab
   rwa [aQ he,he] at this
  have HT2:Hid (¬cap=4->I7 (cf (lp ⟨b,off,od⟩) l.length cap) l (cf (lp ⟨b,off+4,od⟩) (l.length - 4) (cap - 4)) (l.drop 4)):=fun he=>by
   have:=I7.cut b off cap l 4 Ab
   rwa [aO he] at this
  refine B5t ?_;intro hX
  clear hb
  generalize Orch.uns (l.take 4)=X at *
  generalize l.drop 4=L at *
  by_cases hu:most<X
  ·rw [aQ hu]
   have huz:(most:Int)<X:=Ab
   clear HT1 HT2
   generalize l.length=k at *
   go_enter jz,zo
   go_wp2_with (go_at_call 140;refine cU.mono ?_;rintro e w' ⟨rfl,rfl⟩)
   go_ret3
   exact⟨rfl,fe _ _⟩
  ·rw [aO hu]
   have huz:¬(most:Int)<X:=Ab
   generalize l.length=k at *
   go_enter jz,zo
   go_wp2_with (go_at_call 140;refine cU.mono ?_;rintro e w' ⟨rfl,rfl⟩)
   go_region
   all_goals go_wp2
   all_goals go_ret3
   all_goals first|exact⟨⟨_,rfl,HT1.out ‹_›⟩,Du _⟩|exact⟨⟨_,rfl,HT2.out ‹_›⟩,Du _⟩
theorem Ve{P:Program}{c:Code}{Q:Exit->Act->qq->Prop}{a:Act}{w:qq}(F:qq->Prop)(hF:F w)(h:∀W,F W->Code.wp P c Q a W):Code.wp P c Q a w:=h w hF
theorem cellOf{W:qq}{g j:Nat}{cs:Array tj}{t:s8}{fr:Nat×Nat}{u:tj}(h:W.heap[g]? = lp (ye cs t fr))(hu:cs[j]? = lp u):W.cell? ⟨g,j,od⟩=lp u:=by
 rw [cell_of_row W g j cs t fr h];exact hu
theorem Ay{W:qq}{g j:Nat}{cs:Array tj}{t:s8}(h:W.heap[g]? = lp (ye cs t (0,0))):W.frozen? ⟨g,j,od⟩=vp:=by simp [World.frozen?,h]
theorem Kl{w:World}{b:Nat}{c:Array Value}{t:TypeId}{f:Nat×Nat}{x0:Value}(j0:Nat)(h:w.heap[b]? = some (.cells c t f))(e0:c[j0]? = some x0:=by exact rfl):w.cell? ⟨b,j0,none⟩=some x0:=cellOf h e0
theorem BH{w:World}{b:Nat}{c:Array Value}{t:TypeId}{f:Nat×Nat}{x0 x1:Value}(j0 j1:Nat)(h:w.heap[b]? = some (.cells c t f))(e0:c[j0]? = some x0:=by exact rfl)(e1:c[j1]? = some x1:=by exact rfl):w.cell? ⟨b,j0,none⟩=some x0/\w.cell? ⟨b,j1,none⟩=some x1:=⟨cellOf h e0,cellOf h e1⟩
theorem Ld{w:World}{b:Nat}{c:Array Value}{t:TypeId}{f:Nat×Nat}{x0 x1 x2:Value}(j0 j1 j2:Nat)(h:w.heap[b]? = some (.cells c t f))(e0:c[j0]? = some x0:=by exact rfl)(e1:c[j1]? = some x1:=by exact rfl)(e2:c[j2]? = some x2:=by exact rfl):w.cell? ⟨b,j0,none⟩=some x0/\w.cell? ⟨b,j1,none⟩=some x1/\w.cell? ⟨b,j2,none⟩=some x2:=⟨cellOf h e0,cellOf h e1,cellOf h e2⟩
theorem Ck4{w:World}{b:Nat}{c:Array Value}{t:TypeId}{f:Nat×Nat}{x0 x1 x2 x3:Value}(j0 j1 j2 j3:Nat)(h:w.heap[b]? = some (.cells c t f))(e0:c[j0]? = some x0:=by exact rfl)(e1:c[j1]? = some x1:=by exact rfl)(e2:c[j2]? = some x2:=by exact rfl)(e3:c[j3]? = some x3:=by exact rfl):w.cell? ⟨b,j0,none⟩=some x0/\w.cell? ⟨b,j1,none⟩=some x1/\w.cell? ⟨b,j2,none⟩=some x2/\w.cell? ⟨b,j3,none⟩=some x3:=⟨cellOf h e0,cellOf h e1,cellOf h e2,cellOf h e3⟩
theorem Ck5{w:World}{b:Nat}{c:Array Value}{t:TypeId}{f:Nat×Nat}{x0 x1 x2 x3 x4:Value}(j0 j1 j2 j3 j4:Nat)(h:w.heap[b]? = some (.cells c t f))(e0:c[j0]? = some x0:=by exact rfl)(e1:c[j1]? = some x1:=by exact rfl)(e2:c[j2]? = some x2:=by exact rfl)(e3:c[j3]? = some x3:=by exact rfl)(e4:c[j4]? = some x4:=by exact rfl):w.cell? ⟨b,j0,none⟩=some x0/\w.cell? ⟨b,j1,none⟩=some x1/\w.cell? ⟨b,j2,none⟩=some x2/\w.cell? ⟨b,j3,none⟩=some x3/\w.cell? ⟨b,j4,none⟩=some x4:=⟨cellOf h e0,cellOf h e1,cellOf h e2,cellOf h e3,cellOf h e4⟩
theorem WO{w:World}{b:Nat}{c:Array Value}{t:TypeId}{f:Nat×Nat}{x0 x1 x2 x3 x4 x5:Value}(j0 j1 j2 j3 j4 j5:Nat)(h:w.heap[b]? = some (.cells c t f))(e0:c[j0]? = some x0:=by exact rfl)(e1:c[j1]? = some x1:=by exact rfl)(e2:c[j2]? = some x2:=by exact rfl)(e3:c[j3]? = some x3:=by exact rfl)(e4:c[j4]? = some x4:=by exact rfl)(e5:c[j5]? = some x5:=by exact rfl):w.cell? ⟨b,j0,none⟩=some x0/\w.cell? ⟨b,j1,none⟩=some x1/\w.cell? ⟨b,j2,none⟩=some x2/\w.cell? ⟨b,j3,none⟩=some x3/\w.cell? ⟨b,j4,none⟩=some x4/\w.cell? ⟨b,j5,none⟩=some x5:=⟨cellOf h e0,cellOf h e1,cellOf h e2,cellOf h e3,cellOf h e4,cellOf h e5⟩
theorem LD{w:World}{b:Nat}{c:Array Value}{t:TypeId}{f:Nat×Nat}{x0 x1 x2 x3 x4 x5 x6:Value}(j0 j1 j2 j3 j4 j5 j6:Nat)(h:w.heap[b]? = some (.cells c t f))(e0:c[j0]? = some x0:=by exact rfl)(e1:c[j1]? = some x1:=by exact rfl)(e2:c[j2]? = some x2:=by exact rfl)(e3:c[j3]? = some x3:=by exact rfl)(e4:c[j4]? = some x4:=by exact rfl)(e5:c[j5]? = some x5:=by exact rfl)(e6:c[j6]? = some x6:=by exact rfl):w.cell? ⟨b,j0,none⟩=some x0/\w.cell? ⟨b,j1,none⟩=some x1/\w.cell? ⟨b,j2,none⟩=some x2/\w.cell? ⟨b,j3,none⟩=some x3/\w.cell? ⟨b,j4,none⟩=some x4/\w.cell? ⟨b,j5,none⟩=some x5/\w.cell? ⟨b,j6,none⟩=some x6:=⟨cellOf h e0,cellOf h e1,cellOf h e2,cellOf h e3,cellOf h e4,cellOf h e5,cellOf h e6⟩
theorem KO{w:World}{b:Nat}{c:Array Value}{t:TypeId}{f:Nat×Nat}{x0 x1 x2 x3 x4 x5 x6 x7:Value}(j0 j1 j2 j3 j4 j5 j6 j7:Nat)(h:w.heap[b]? = some (.cells c t f))(e0:c[j0]? = some x0:=by exact rfl)(e1:c[j1]? = some x1:=by exact rfl)(e2:c[j2]? = some x2:=by exact rfl)(e3:c[j3]? = some x3:=by exact rfl)(e4:c[j4]? = some x4:=by exact rfl)(e5:c[j5]? = some x5:=by exact rfl)(e6:c[j6]? = some x6:=by exact rfl)(e7:c[j7]? = some x7:=by exact rfl):w.cell? ⟨b,j0,none⟩=some x0/\w.cell? ⟨b,j1,none⟩=some x1/\w.cell? ⟨b,j2,none⟩=some x2/\w.cell? ⟨b,j3,none⟩=some x3/\w.cell? ⟨b,j4,none⟩=some x4/\w.cell? ⟨b,j5,none⟩=some x5/\w.cell? ⟨b,j6,none⟩=some x6/\w.cell? ⟨b,j7,none⟩=some x7:=⟨cellOf h e0,cellOf h e1,cellOf h e2,cellOf h e3,cellOf h e4,cellOf h e5,cellOf h e6,cellOf h e7⟩
theorem EX{w:qq}{b:Nat}{c:Array tj}{t:s8}(j0:Nat)(h:w.heap[b]? = lp (ye c t)):w.frozen? ⟨b,j0,od⟩=vp:=Ay h
theorem Fk2{w:qq}{b:Nat}{c:Array tj}{t:s8}(j0 j1:Nat)(h:w.heap[b]? = lp (ye c t)):w.frozen? ⟨b,j0,od⟩=vp/\w.frozen? ⟨b,j1,od⟩=vp:=⟨Ay h,Ay h⟩
theorem Fk3{w:qq}{b:Nat}{c:Array tj}{t:s8}(j0 j1 j2:Nat)(h:w.heap[b]? = lp (ye c t)):w.frozen? ⟨b,j0,od⟩=vp/\w.frozen? ⟨b,j1,od⟩=vp/\w.frozen? ⟨b,j2,od⟩=vp:=⟨Ay h,Ay h,Ay h⟩
theorem Fk4{w:qq}{b:Nat}{c:Array tj}{t:s8}(j0 j1 j2 j3:Nat)(h:w.heap[b]? = lp (ye c t)):w.frozen? ⟨b,j0,od⟩=vp/\w.frozen? ⟨b,j1,od⟩=vp/\w.frozen? ⟨b,j2,od⟩=vp/\w.frozen? ⟨b,j3,od⟩=vp:=⟨Ay h,Ay h,Ay h,Ay h⟩
theorem Fk5{w:qq}{b:Nat}{c:Array tj}{t:s8}(j0 j1 j2 j3 j4:Nat)(h:w.heap[b]? = lp (ye c t)):w.frozen? ⟨b,j0,od⟩=vp/\w.frozen? ⟨b,j1,od⟩=vp/\w.frozen? ⟨b,j2,od⟩=vp/\w.frozen? ⟨b,j3,od⟩=vp/\w.frozen? ⟨b,j4,od⟩=vp:=⟨Ay h,Ay h,Ay h,Ay h,Ay h⟩
theorem Fk6{w:qq}{b:Nat}{c:Array tj}{t:s8}(j0 j1 j2 j3 j4 j5:Nat)(h:w.heap[b]? = lp (ye c t)):w.frozen? ⟨b,j0,od⟩=vp/\w.frozen? ⟨b,j1,od⟩=vp/\w.frozen? ⟨b,j2,od⟩=vp/\w.frozen? ⟨b,j3,od⟩=vp/\w.frozen? ⟨b,j4,od⟩=vp/\w.frozen? ⟨b,j5,od⟩=vp:=⟨Ay h,Ay h,Ay h,Ay h,Ay h,Ay h⟩
theorem Fk7{w:qq}{b:Nat}{c:Array tj}{t:s8}(j0 j1 j2 j3 j4 j5 j6:Nat)(h:w.heap[b]? = lp (ye c t)):w.frozen? ⟨b,j0,od⟩=vp/\w.frozen? ⟨b,j1,od⟩=vp/\w.frozen? ⟨b,j2,od⟩=vp/\w.frozen? ⟨b,j3,od⟩=vp/\w.frozen? ⟨b,j4,od⟩=vp/\w.frozen? ⟨b,j5,od⟩=vp/\w.frozen? ⟨b,j6,od⟩=vp:=⟨Ay h,Ay h,Ay h,Ay h,Ay h,Ay h,Ay h⟩
theorem Fk8{w:qq}{b:Nat}{c:Array tj}{t:s8}(j0 j1 j2 j3 j4 j5 j6 j7:Nat)(h:w.heap[b]? = lp (ye c t)):w.frozen? ⟨b,j0,od⟩=vp/\w.frozen? ⟨b,j1,od⟩=vp/\w.frozen? ⟨b,j2,od⟩=vp/\w.frozen? ⟨b,j3,od⟩=vp/\w.frozen? ⟨b,j4,od⟩=vp/\w.frozen? ⟨b,j5,od⟩=vp/\w.frozen? ⟨b,j6,od⟩=vp/\w.frozen? ⟨b,j7,od⟩=vp:=⟨Ay h,Ay h,Ay h,Ay h,Ay h,Ay h,Ay h,Ay h⟩
theorem ltOf{W:qq}{g:Nat}{o:Obj}(h:W.heap[g]? = lp o):g<W.heap.size:=(aF.1 h).1
theorem Abn(w:qq)(o0 o1 o2:Obj):(((w.alloc o0).alloc o1).alloc o2).heap[w.heap.size]? = lp o0/\(((w.alloc o0).alloc o1).alloc o2).heap[w.heap.size+1]? = lp o1/\(((w.alloc o0).alloc o1).alloc o2).heap[w.heap.size+1+1]? = lp o2:=by
 refine⟨?_,?_,?_⟩
 ·rw [q8 _ _ _ Ag,q8 _ _ _ Ae];exact tw w o0
 ·rw [q8 _ _ _ Ae]
  have:=tw (w.alloc o0) o1
  simpa using this
 ·have:=tw ((w.alloc o0).alloc o1) o2
  simpa using this
theorem Mo(w:qq)(o0 o1:Obj):((w.alloc o0).alloc o1).heap[w.heap.size]? = lp o0/\((w.alloc o0).alloc o1).heap[w.heap.size+1]? = lp o1:=by
 refine⟨?_,?_⟩
 ·rw [q8 _ _ _ Ae];exact tw w o0
 ·have:=tw (w.alloc o0) o1
  simpa using this
section
variable {valid:ByteArray->Bool} {Tabs:qq->Prop}
theorem Ua(U:Jk valid Tabs)(w:qq)(hT:Tabs w){k:Nat}(t:Orch.Ty)(E6:Vp (k+1) t)(pa:Option Addr)(pc:Nat)(v:Orch.V)(la:Option Addr)(lc:Nat) :
  xi ly 200 #[D7 t.l (cf pa t.ps.length pc),AU v (cf la v.l.length lc)] w fun e w'=>e=pd (gf (Orch.fits valid t v))/\ug w.heap.size w w':=by
 unfold Orch.fits
 rcases Lj E6.1 with h|h|h|h
 ·simp only [D7,h];exact XS w _ _ _ _ _ _ _ _ _ _ _ _ _ _
 ·simp only [D7,h];exact XT U w hT _ _ _ _ _ _ _ _ _ _ _ _ _ _
 ·simp only [D7,h];exact XU w _ _ _ _ _ _ _ _ _ _ _ _ _ _
 ·simp only [D7,h];exact XV w _ _ _ _ _ _ _ _ _ _ _ _ _ _
def Mp(e:Ending):Prop:=∃(n:Int) (s:ByteArray) (a a':Option Addr) (m c m' c':Nat),e=pd (.tuple #[vv n s (cf a m c),cf a' m' c',gf vp])
end
theorem Th{B:Nat}{w w1:qq}(h:ug B w w1)(g:Nat)(hg:B<=g)(x y z:tj):ug B w (((w1.setCell ⟨g,0,od⟩ x).setCell ⟨g,1,od⟩ y).setCell ⟨g,2,od⟩ z):=
 ((h.setCell (p:=⟨g,0,od⟩) hg x).setCell (p:=⟨g,1,od⟩) hg y).setCell (p:=⟨g,2,od⟩) hg z
section
variable {Tabs:qq->Prop}
theorem Sg(w:qq)(sg sh sz:Nat)(lo hi:Int)(tx:Bool)(fn:Nat)(pa:Option Addr)(pn pc b off k cap:Nat)(SG:Int)(FB:Bool)(hk:k<=1000)(Ea:k<=cap)(hsz8:1<=sz/\sz<=8)(Cg:b<w.heap.size)(h4:¬k<sz)(HF:Hid (∀w',Tabs w'->xi ly 200 #[Gl sg sh sz lo hi tx fn (cf pa pn pc),vv SG ⟨#[]⟩ (cf od 0 0)] w' fun e Hx=>e=pd (gf FB)/\ug w'.heap.size w' Hx))(HTb:Hid (∀w',ug w.heap.size w w'->Tabs w'))(HS':Hid (∀w',ug w.heap.size w w'->xi ly 142 #[cf (lp ⟨b,off,od⟩) sz cap] w' fun e Hx=>e=pd (rl tz SG)/\Hx=w')) :
  xi ly 202 #[Gl sg sh sz lo hi tx fn (cf pa pn pc),cf (lp ⟨b,off,od⟩) k cap] w fun e w'=>
   ∃rv,e=pd (.tuple #[vv SG ⟨#[]⟩ (cf od 0 0),rv,gf FB])/\(rv=if cap=sz then cf (lp ⟨b,off,od⟩) (k - sz) 0 else cf (lp ⟨b,off+sz,od⟩) (k - sz) (cap - sz))/\ug w.heap.size w w':=by
 have h4z:¬(k:Int)<(sz:Int):=Ab
 obtain⟨RV,hRV⟩:∃RV,RV=if cap=sz then Value.slice (lp ⟨b,off,od⟩) (k - sz) 0 else cf (lp ⟨b,off+sz,od⟩) (k - sz) (cap - sz):=⟨_,rfl⟩
 rw [←hRV]
 have HRV:Hid (RV=if cap=sz then Value.slice (lp ⟨b,off,od⟩) (k - sz) 0 else cf (lp ⟨b,off+sz,od⟩) (k - sz) (cap - sz)):=hRV
 clear hRV
 go_enter func202,ntmps202
 go_wp2_with (go_at_call 142;refine(HS'.out _ (Ck _ _ _)).mono ?_;rintro e w' ⟨rfl,rfl⟩)
 obtain⟨n0,n1,n2⟩:=Abn w (ye #[rl dc sg,rl tz sh,rl tz sz,rl tz lo,rl tz hi,gf tx,rl dc fn,cf pa pn pc] 196)
  (ye #[rl tz 0,pt ⟨#[]⟩,cf od 0 0] 164) (ye #[rl tz SG,pt ⟨#[]⟩,cf od 0 0] 164)
 refine Ve (fun W=>ug w.heap.size w W/\W.heap[w.heap.size]? = lp (ye #[rl dc sg,rl tz sh,rl tz sz,rl tz lo,rl tz hi,gf tx,rl dc fn,cf pa pn pc] 196) /\
  W.heap[w.heap.size+1]? = lp (ye #[rl tz 0,pt ⟨#[]⟩,cf od 0 0] 164)/\W.heap[w.heap.size+1+1]? = lp (ye #[rl tz SG,pt ⟨#[]⟩,cf od 0 0] 164)) ⟨Nc _ _ _ _,n0,n1,n2⟩ ?_
 clear n0 n1 n2 HS'
 rintro W ⟨hbW,m0,m1,m2⟩
 obtain⟨a0,a1,a2,a3,a4,a5,a6,a7⟩:=KO 0 1 2 3 4 5 6 7 m0
 obtain⟨b0,b1,b2⟩:=Ld 0 1 2 m2
 have HW:Hid (ug w.heap.size w W):=hbW
 have M1:Hid (W.heap[w.heap.size+1]? = lp (ye #[rl tz 0,pt ⟨#[]⟩,cf od 0 0] 164)):=m1
 have M2:Hid (W.heap[w.heap.size+1+1]? = lp (ye #[rl tz SG,pt ⟨#[]⟩,cf od 0 0] 164)):=m2
 clear hbW m0 m1 m2
 by_cases hcs:cap=sz
 all_goals go_region_with (
  go_at_call 200
  refine(HF.out _ (HTb.out _ (by first|exact HW.out|exact HW.out.drew|exact HW.out.drew.drew))).mono ?_
  rintro e w1 ⟨rfl,B9⟩
  have k1:w1.heap[w.heap.size+1]? = lp (ye #[rl tz 0,pt ⟨#[]⟩,cf od 0 0] 164):=(B9.block _ (ltOf M1.out)).trans M1.out
  have k2:w1.heap[w.heap.size+1+1]? = lp (ye #[rl tz SG,pt ⟨#[]⟩,cf od 0 0] 164):=(B9.block _ (ltOf M2.out)).trans M2.out
  have Cs:Hid (ug w.heap.size w w1):=Below.trans (by first|exact HW.out|exact HW.out.drew|exact HW.out.drew.drew) (B9.mono (by first|exact HW.out.size))
  obtain⟨d0,d1,d2⟩:=Ld 0 1 2 k1
  have f0:=Ay (j:=0) k1
  have f1:=Ay (j:=1) k1
  have f2:=Ay (j:=2) k1
  obtain⟨g0,g1,g2⟩:=Ld 0 1 2 k2
  clear B9 k1 k2)
 all_goals go_wp2
 all_goals refine bodyPost_ret (v:=.tuple #[vv SG ⟨#[]⟩ (cf od 0 0),RV,gf FB]) ?_ rfl ⟨RV,rfl,rfl,?_⟩
 all_goals try exact Th (by first|exact Cs.out|exact Cs.out.drew) _ (dD _) _ _ _
 all_goals try(rw [HRV.out,aQ hcs];simp [results,results202,go_sem,d0,d1,d2];done)
 all_goals try(rw [HRV.out,aO hcs];simp [results,results202,go_sem,d0,d1,d2];done)
end
end Go.Proofs.YtjoblhlkfmeckaaGreatDoor
